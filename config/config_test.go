package config_test

import (
	"math"
	"slices"
	"testing"

	"byre/api"
	"byre/config"
)

// change is one thing done to a config.
type change struct {
	what string
	do   func(c *api.Config)
}

// uniform is a config with nodes of so many frames, all at the distance 10, and CPUs at home on the node 0.
func uniform(nodes, cpus, frames int) api.Config {
	c := api.Config{Nodes: nodes, CPUs: cpus}
	for a := range nodes {
		c.Frames[a] = frames
		for b := range nodes {
			if a != b {
				c.Distance[a][b] = 10
			}
		}
	}
	return c
}

// apart sets the distance of two nodes, alike both ways.
func apart(c *api.Config, a, b, distance int) {
	c.Distance[a][b], c.Distance[b][a] = distance, distance
}

// three is a config with three nodes, each of another size, two CPUs, and room behind both.
func three() api.Config {
	c := uniform(3, 2, 0)
	c.Frames[0], c.Frames[1], c.Frames[2] = 9, 6, 7
	c.Home[0], c.Home[1] = 2, 1
	apart(&c, 0, 1, 20)
	apart(&c, 0, 2, 10)
	apart(&c, 1, 2, 15)
	c.Slots, c.Min, c.Low, c.High = 5, 1, 3, 5
	return c
}

// full is a config in which nodes, CPUs, frames and slots are as many as there may be.
func full() api.Config {
	c := uniform(api.MaxNodes, api.MaxCPUs, api.MaxFrames)
	for cpu := range c.Home {
		c.Home[cpu] = cpu % api.MaxNodes
	}
	c.Slots, c.Min, c.Low, c.High = api.MaxSlots, api.MaxFrames, api.MaxFrames, api.MaxFrames
	return c
}

// marks is a change of the three watermarks.
func marks(what string, least, low, high int) change {
	return change{what, func(c *api.Config) { c.Min, c.Low, c.High = least, low, high }}
}

// good are changes behind which three is a config that may be.
func good() []change {
	return []change{
		{"nothing", func(c *api.Config) {}},
		{"Home 0", func(c *api.Config) { c.Home[0] = 0 }},
		{"Home the last node", func(c *api.Config) { c.Home[1] = 2 }},
		{"4 frames", func(c *api.Config) { c.Frames[1], c.High = 4, 4 }},
		{"128 frames", func(c *api.Config) { c.Frames[2] = 128 }},
		{"distance 1", func(c *api.Config) { apart(c, 0, 2, 1) }},
		{"distance 255", func(c *api.Config) { apart(c, 1, 2, 255) }},
		{"distances alike", func(c *api.Config) { apart(c, 0, 1, 10); apart(c, 1, 2, 10) }},
		{"Slots 0", func(c *api.Config) { c.Slots = 0 }},
		{"Slots MaxSlots", func(c *api.Config) { c.Slots = api.MaxSlots }},
		marks("watermarks 0", 0, 0, 0),
		marks("watermarks all the least node's frames", 6, 6, 6),
		marks("High the least node's frames", 0, 0, 6),
		marks("Min and Low alike", 2, 2, 5),
		marks("Low and High alike", 1, 5, 5),
		{"one CPU", func(c *api.Config) { c.CPUs, c.Home[1] = 1, 0 }},
		{"16 CPUs", func(c *api.Config) { c.CPUs = api.MaxCPUs }},
	}
}

// wrongNodes are changes behind which the nodes of three may not be.
func wrongNodes() []change {
	var l []change
	for _, n := range []int{math.MinInt, -1, 0, 1, 2, 4, api.MaxNodes, api.MaxNodes + 1, math.MaxInt} {
		l = append(l, change{"Nodes", func(c *api.Config) { c.Nodes = n }})
	}
	for _, n := range []int{math.MinInt, -4, -1, 0, 1, 2, 3, 129, 1 << 20, math.MaxInt} {
		for node := range 3 {
			l = append(l, change{"frames of a node", func(c *api.Config) { c.Frames[node] = n }},
				change{"frames of a node, watermarks 0", func(c *api.Config) {
					c.Frames[node], c.Min, c.Low, c.High = n, 0, 0, 0
				}})
		}
	}
	return l
}

// wrongCPUs are changes behind which the CPUs of three may not be.
func wrongCPUs() []change {
	var l []change
	for _, n := range []int{math.MinInt, -1, 0, 1, api.MaxCPUs + 1, math.MaxInt} {
		l = append(l, change{"CPUs", func(c *api.Config) { c.CPUs = n }})
	}
	for _, n := range []int{math.MinInt, -1, 3, api.MaxNodes, math.MaxInt} {
		for cpu := range 2 {
			l = append(l, change{"Home of a CPU", func(c *api.Config) { c.Home[cpu] = n }})
		}
	}
	return l
}

// wrongDistances are changes behind which the distances of three may not be.
func wrongDistances() []change {
	var l []change
	for a := range 3 {
		for b := range 3 {
			l = append(l, change{"distances that are not alike", func(c *api.Config) { c.Distance[a][b]++ }})
			for _, n := range []int{math.MinInt, -1, 256, math.MaxInt} {
				l = append(l, change{"a distance", func(c *api.Config) { apart(c, a, b, n) }})
			}
			if a != b {
				l = append(l, change{"distance 0", func(c *api.Config) { apart(c, a, b, 0) }})
			} else {
				l = append(l, change{"distance 255 to itself", func(c *api.Config) { c.Distance[a][a] = 255 }})
			}
		}
	}
	return l
}

// wrongMarks are changes behind which the slots or watermarks of three may not be.
func wrongMarks() []change {
	var l []change
	for _, n := range []int{math.MinInt, -1, api.MaxSlots + 1, math.MaxInt} {
		l = append(l, change{"Slots", func(c *api.Config) { c.Slots = n }})
	}
	return append(l,
		marks("Min below 0", -1, 3, 5), marks("all below 0", -3, -2, -1), marks("the least Min", math.MinInt, 0, 0),
		marks("Min above Low", 4, 3, 5), marks("Min above all", 6, 3, 5), marks("Low above High", 1, 6, 5),
		marks("falling", 5, 3, 1), marks("High below Min", 2, 3, 1),
		marks("High above the least node's frames", 1, 3, 7), marks("all above the least node's frames", 7, 7, 7),
		marks("the most High", 0, 0, math.MaxInt), marks("the most of all", math.MaxInt, math.MaxInt, math.MaxInt))
}

// wrongBehind are changes that put something behind the nodes and CPUs of three.
func wrongBehind() []change {
	var l []change
	for _, n := range []int{math.MinInt, -1, 1, 4, 10, math.MaxInt} {
		for cpu := 2; cpu < api.MaxCPUs; cpu++ {
			l = append(l, change{"a Home behind", func(c *api.Config) { c.Home[cpu] = n }})
		}
		for node := 3; node < api.MaxNodes; node++ {
			l = append(l, change{"frames behind", func(c *api.Config) { c.Frames[node] = n }})
			for other := range api.MaxNodes {
				l = append(l, change{"a distance behind", func(c *api.Config) { c.Distance[node][other] = n }},
					change{"a distance behind", func(c *api.Config) { c.Distance[other][node] = n }},
					change{"distances behind", func(c *api.Config) { apart(c, node, other, n) }})
			}
		}
	}
	return l
}

// wrong are changes behind which three is a config that may not be.
func wrong() []change {
	return slices.Concat(wrongNodes(), wrongCPUs(), wrongDistances(), wrongMarks(), wrongBehind())
}

// wantNode holds what Node answers against the node, or the error, that it is to answer.
func wantNode(t *testing.T, c api.Config, frame, node int, want api.Errno) {
	t.Helper()
	if got, e := config.Node(c, frame); got != node || e != want {
		t.Errorf("Node(%d): %d, error %d; not %d, error %d", frame, got, e, node, want)
	}
}

// wantFirst holds what First answers against the frame, or the error, that it is to answer.
func wantFirst(t *testing.T, c api.Config, node, frame int, want api.Errno) {
	t.Helper()
	if got, e := config.First(c, node); got != frame || e != want {
		t.Errorf("First(%d): %d, error %d; not %d, error %d", node, got, e, frame, want)
	}
}

// wantOrder holds what Order answers against the order that it is to answer.
func wantOrder(t *testing.T, c api.Config, node int, want ...int) {
	t.Helper()
	if got, e := config.Order(c, node); e != api.OK || !slices.Equal(got, want) {
		t.Errorf("Order(%d): %v, error %d; not %v", node, got, e, want)
	}
}

// wantNoOrder holds what Order answers against the error that it is to answer.
func wantNoOrder(t *testing.T, c api.Config, node int, want api.Errno) {
	t.Helper()
	if got, e := config.Order(c, node); len(got) != 0 || e != want {
		t.Errorf("Order(%d): %v, error %d; not error %d", node, got, e, want)
	}
}

func TestP2_1MayGood(t *testing.T) {
	for _, x := range good() {
		c := three()
		x.do(&c)
		if !config.May(c) {
			t.Errorf("%s: may not be: %v", x.what, c)
		}
	}
	if !config.May(full()) {
		t.Error("the fullest one may not be")
	}
}

func TestP2_1MayWrong(t *testing.T) {
	for _, x := range wrong() {
		c := three()
		x.do(&c)
		if config.May(c) {
			t.Errorf("%s: may be: %v", x.what, c)
		}
	}
	if config.May(api.Config{}) {
		t.Error("a zero one may be")
	}
}

func TestP2_1MayCounts(t *testing.T) {
	for nodes := 1; nodes <= api.MaxNodes; nodes++ {
		for cpus := 1; cpus <= api.MaxCPUs; cpus++ {
			c := uniform(nodes, cpus, 4)
			c.Home[cpus-1] = nodes - 1
			if !config.May(c) {
				t.Errorf("%d nodes, %d CPUs: may not be", nodes, cpus)
			}
			c.Home[cpus-1] = nodes
			if config.May(c) {
				t.Errorf("%d nodes, a Home of %d: may be", nodes, nodes)
			}
		}
	}
}

// A count that is over its list's end must not be gone to, whatever else stands in the config.
func TestP2_1MayCountsOverTheEnd(t *testing.T) {
	for _, over := range []int{1, 2, 100, 1 << 20} {
		c := full()
		c.Nodes += over
		if config.May(c) {
			t.Errorf("%d nodes: may be", c.Nodes)
		}
		c = full()
		c.CPUs += over
		if config.May(c) {
			t.Errorf("%d CPUs: may be", c.CPUs)
		}
	}
}

// Nothing else is wrong with these: there is nothing behind the nodes and CPUs that there are.
func TestP2_1MayCountsAlone(t *testing.T) {
	for _, x := range []struct{ nodes, cpus int }{{0, 0}, {0, 1}, {1, 0}, {api.MaxNodes, 0}, {0, api.MaxCPUs}} {
		if config.May(uniform(x.nodes, x.cpus, 4)) {
			t.Errorf("%d nodes, %d CPUs: may be", x.nodes, x.cpus)
		}
	}
	for _, cpus := range []int{-1, api.MaxCPUs + 1} {
		if config.May(uniform(api.MaxNodes, cpus, 4)) {
			t.Errorf("%d CPUs: may be", cpus)
		}
	}
}

// Each node's frames count for the watermarks, and those alone.
func TestP2_1MayLeastNode(t *testing.T) {
	for nodes := 1; nodes <= api.MaxNodes; nodes++ {
		for least := range nodes {
			c := uniform(nodes, 1, 20)
			c.Frames[least], c.High = 11, 11
			if !config.May(c) {
				t.Errorf("High 11, the node %d of %d has 11: may not be", least, nodes)
			}
			c.Frames[least] = 10
			if config.May(c) {
				t.Errorf("High 11, the node %d of %d has 10: may be", least, nodes)
			}
		}
	}
}

func TestP2_1Total(t *testing.T) {
	for _, x := range []struct {
		c    api.Config
		want int
	}{
		{three(), 22}, {full(), api.MaxNodes * api.MaxFrames}, {config.Least(4), 4}, {uniform(2, 1, 5), 10}, {api.Config{}, 0},
	} {
		if got := config.Total(x.c); got != x.want {
			t.Errorf("Total: %d, not %d", got, x.want)
		}
	}
	for _, x := range wrong() {
		c := three()
		x.do(&c)
		if got := config.Total(c); got != 0 {
			t.Errorf("%s: Total %d", x.what, got)
		}
	}
}

func TestP2_2Examples(t *testing.T) {
	c := uniform(2, 1, 4)
	c.Frames[1] = 8
	if got := config.Total(c); got != 12 {
		t.Errorf("Total: %d", got)
	}
	wantFirst(t, c, 1, 4, api.OK)
	wantNode(t, c, 4, 1, api.OK)
	wantNode(t, c, 12, 0, api.ErrNone)
	wantOrder(t, c, 1, 1, 0)
}

// What is not there is asked for as well: that the config may not be is told first.
func TestP2_2MayNotBe(t *testing.T) {
	for _, x := range append(wrong(), change{"a zero one", func(c *api.Config) { *c = api.Config{} }}) {
		c := three()
		x.do(&c)
		for _, i := range []int{math.MinInt, -1, 0, 1, 2, 3, 21, 22, math.MaxInt} {
			wantFirst(t, c, i, 0, api.ErrArg)
			wantNode(t, c, i, 0, api.ErrArg)
			wantNoOrder(t, c, i, api.ErrArg)
		}
		if t.Failed() {
			t.Fatalf("%s: %v", x.what, c)
		}
	}
}

func TestP2_2NotThere(t *testing.T) {
	for _, c := range []api.Config{three(), full(), config.Least(4)} {
		for _, node := range []int{math.MinInt, -1, c.Nodes, c.Nodes + 1, api.MaxNodes, 1 << 20, math.MaxInt} {
			wantFirst(t, c, node, 0, api.ErrNone)
			wantNoOrder(t, c, node, api.ErrNone)
		}
		total := config.Total(c)
		for _, frame := range []int{math.MinInt, -129, -1, total, total + 1, 1 << 20, math.MaxInt} {
			wantNode(t, c, frame, 0, api.ErrNone)
		}
	}
}

func TestP2_2FirstNode(t *testing.T) {
	c := three()
	for node, first := range []int{0, 9, 15} {
		wantFirst(t, c, node, first, api.OK)
		wantNode(t, c, first, node, api.OK)
		wantNode(t, c, first+c.Frames[node]-1, node, api.OK)
	}
	for nodes := 1; nodes <= api.MaxNodes; nodes++ {
		c := uniform(nodes, 1, 4)
		frame := 0
		for node := range nodes {
			c.Frames[node] = 4 + node*node
		}
		for node := range nodes {
			wantFirst(t, c, node, frame, api.OK)
			for range c.Frames[node] {
				wantNode(t, c, frame, node, api.OK)
				frame++
			}
		}
		wantNode(t, c, frame, 0, api.ErrNone)
	}
}

func TestP2_2Order(t *testing.T) {
	c := three()
	wantOrder(t, c, 0, 0, 2, 1)
	wantOrder(t, c, 1, 1, 2, 0)
	wantOrder(t, c, 2, 2, 0, 1)
	wantOrder(t, config.Least(4), 0, 0)
	// The node asked for is the last one by its number, and is first all the same.
	c = uniform(4, 1, 4)
	apart(&c, 3, 0, 255)
	apart(&c, 3, 1, 1)
	apart(&c, 3, 2, 1)
	wantOrder(t, c, 3, 3, 1, 2, 0)
	wantOrder(t, c, 0, 0, 1, 2, 3)
}

func TestP2_2OrderAlike(t *testing.T) {
	c := full()
	for node := range api.MaxNodes {
		want := []int{node}
		for other := range api.MaxNodes {
			if other != node {
				want = append(want, other)
			}
		}
		wantOrder(t, c, node, want...)
	}
	for other := range 7 {
		apart(&c, 7, other, 30-10*(other%3))
	}
	wantOrder(t, c, 7, 7, 2, 5, 1, 4, 0, 3, 6)
}

// Each order has each node once, and of two neighbours the second is farther, or as far with a greater number.
func TestP2_2OrderRises(t *testing.T) {
	for seed := range 200 {
		c := uniform(api.MaxNodes, 1, 4)
		for a := range api.MaxNodes {
			for b := range a {
				apart(&c, a, b, 1+(seed*(a*a+3*b+1)+a*b)%5)
			}
		}
		for node := range api.MaxNodes {
			order, e := config.Order(c, node)
			if e != api.OK || len(order) != api.MaxNodes || order[0] != node {
				t.Fatalf("Order(%d): %v, error %d", node, order, e)
			}
			for i, far := range order[1:] {
				near := order[i]
				d := c.Distance[node][far] - c.Distance[node][near]
				if d < 0 || d == 0 && far <= near {
					t.Errorf("Order(%d): %d stands before %d: %v", node, near, far, c.Distance)
				}
			}
		}
	}
}

// What is answered may be written over, and what is handed in stays as it is.
func TestP2_2OrderIsNew(t *testing.T) {
	c := three()
	order, _ := config.Order(c, 0)
	clear(order)
	wantOrder(t, c, 0, 0, 2, 1)
	if c != three() {
		t.Error("Order has written to its config")
	}
}

func TestP2_3Least(t *testing.T) {
	for _, x := range []struct{ frames, want int }{
		{math.MinInt, 4}, {-4, 4}, {-1, 4}, {0, 4}, {1, 4}, {3, 4}, {4, 4}, {5, 5}, {64, 64},
		{127, 127}, {128, 128}, {129, 128}, {1000, 128}, {math.MaxInt, 128},
	} {
		want := api.Config{Nodes: 1, CPUs: 1, Slots: x.want}
		want.Frames[0] = x.want
		got := config.Least(x.frames)
		if got != want {
			t.Errorf("Least(%d): %v", x.frames, got)
		}
		if !config.May(got) || config.Total(got) != x.want {
			t.Errorf("Least(%d): may not be, or has not %d frames", x.frames, x.want)
		}
	}
}
