package policy_test

import (
	"math"
	"slices"
	"testing"

	"byre/api"
	"byre/config"
	"byre/policy"
)

// What the chapter names, in its own numbers.
const (
	local      api.PolicyKind = 0
	preferred  api.PolicyKind = 1
	bind       api.PolicyKind = 2
	interleave api.PolicyKind = 3
	maxNodes                  = 8
)

// kinds are kinds, those that are some and others.
var kinds = []api.PolicyKind{local, preferred, bind, interleave, 4, 5, 6, 7, 8, 127, 128, 129, 130, 131, 252, 253, 254, 255}

// noNodes are nodes that no machine has.
var noNodes = []int{
	math.MinInt, math.MinInt + 1, math.MinInt + 7, -1 << 32, 1 - 1<<32, -256, -255, -64, -63, -9, -8, -7, -2, -1,
	8, 9, 15, 16, 31, 32, 33, 63, 64, 65, 255, 256, 257, 1 << 16, 1<<16 + 1, 1 << 32, 1<<32 + 1, 1 << 62, 1<<62 + 1, math.MaxInt - 1, math.MaxInt,
}

// noPages are pages below 0.
var noPages = []int{math.MinInt, math.MinInt + 1, math.MinInt + 2, -1 << 32, 1 - 1<<32, -1024, -8, -7, -4, -3, -2, -1}

// pages are pages that may be: more, one behind the other, than there are nodes twice, and some far ones.
var pages = []int{
	0, 1, 2, 3, 4, 5, 6, 7, 8, 9, 10, 11, 12, 13, 14, 15, 16, 17,
	255, 256, 1023, 1024, 1 << 16, 1 << 32, 1<<32 + 1, 1 << 62, 1<<62 + 1, math.MaxInt - 1, math.MaxInt,
}

// machine is a config, and what is told of it where a test fails.
type machine struct {
	what string
	c    api.Config
}

// lying is a config with so many nodes, which are as far from one another as is told.
func lying(nodes int, distance func(a, b int) int) api.Config {
	c := api.Config{Nodes: nodes, CPUs: 1, Slots: 1}
	for a := range nodes {
		c.Frames[a] = 4
		for b := range nodes {
			if a != b {
				c.Distance[a][b] = distance(a, b)
			}
		}
	}
	return c
}

// alike is a config with so many nodes, all as far from one another.
func alike(nodes int) api.Config {
	return lying(nodes, func(a, b int) int { return 9 })
}

// line is a config with so many nodes in a row: those beside one another are near, and one on each side is as far.
func line(nodes int) api.Config {
	return lying(nodes, func(a, b int) int { return 10 * max(a-b, b-a) })
}

// falling is a config with so many nodes, of which the one with the greatest number is the nearest one to each other one.
func falling(nodes int) api.Config {
	return lying(nodes, func(a, b int) int { return 200 - 10*(a+b) })
}

// parted is a config with so many nodes: even ones, and odd ones, are as far from one another as may be, and each is as near as may be to the rest.
func parted(nodes int) api.Config {
	return lying(nodes, func(a, b int) int {
		if (a+b)%2 > 0 {
			return 1
		}
		return 255
	})
}

// ring is a config with eight nodes in a ring.
func ring() api.Config {
	return lying(8, func(a, b int) int { return 3 * min(max(a-b, b-a), 8-max(a-b, b-a)) })
}

// great is a config with more of all than policies are asked for: CPUs that are at home elsewhere, watermarks, frames.
func great() api.Config {
	c := line(8)
	c.CPUs, c.Slots, c.Min, c.Low, c.High = 16, 1024, 3, 50, 128
	for cpu := range c.Home {
		c.Home[cpu] = (cpu + 5) % 8
	}
	for node := range c.Frames {
		c.Frames[node] = 128
	}
	return c
}

// machines are configs that may be.
func machines() []machine {
	l := []machine{{"a ring", ring()}, {"a great one", great()}, {"the least one", config.Least(4)}}
	for nodes := 1; nodes <= maxNodes; nodes++ {
		l = append(l, machine{"alike", alike(nodes)}, machine{"a line", line(nodes)},
			machine{"falling", falling(nodes)}, machine{"parted", parted(nodes)})
	}
	return l
}

// spoilt is a config with three nodes that something was done to.
func spoilt(what string, do func(c *api.Config)) machine {
	c := alike(3)
	do(&c)
	return machine{what, c}
}

// wrongMachines are configs that may not be.
func wrongMachines() []machine {
	l := []machine{{"a zero one", api.Config{}}}
	for _, n := range []int{math.MinInt, -1, 0, 1, 2, 4, 8, 9, 64, math.MaxInt} {
		l = append(l, spoilt("Nodes", func(c *api.Config) { c.Nodes = n }))
	}
	for _, n := range []int{math.MinInt, -1, 0, 17, math.MaxInt} {
		l = append(l, spoilt("CPUs", func(c *api.Config) { c.CPUs = n }))
	}
	for _, n := range []int{math.MinInt, -1, 3, math.MaxInt} {
		l = append(l, spoilt("Home", func(c *api.Config) { c.Home[0] = n }),
			spoilt("frames", func(c *api.Config) { c.Frames[2] = n }),
			spoilt("a distance to itself", func(c *api.Config) { c.Distance[1][1] = n }),
			spoilt("distances that are not alike", func(c *api.Config) { c.Distance[0][2] = n }),
			spoilt("something behind", func(c *api.Config) { c.Frames[7] = n }))
	}
	return append(l,
		spoilt("a distance 0", func(c *api.Config) { c.Distance[0][1], c.Distance[1][0] = 0, 0 }),
		spoilt("a distance 256", func(c *api.Config) { c.Distance[0][1], c.Distance[1][0] = 256, 256 }),
		spoilt("Slots -1", func(c *api.Config) { c.Slots = -1 }),
		spoilt("Slots 1025", func(c *api.Config) { c.Slots = 1025 }),
		spoilt("Min -1", func(c *api.Config) { c.Min = -1 }),
		spoilt("Min above Low", func(c *api.Config) { c.Min, c.Low, c.High = 2, 1, 3 }),
		spoilt("High 5", func(c *api.Config) { c.High = 5 }))
}

// nodesOf is the mask's nodes, by rising numbers.
func nodesOf(mask uint8) []int {
	var l []int
	for node, rest := 0, int(mask); rest > 0; node, rest = node+1, rest/2 {
		if rest%2 > 0 {
			l = append(l, node)
		}
	}
	return l
}

// plainMay is what May is to answer of a config that may be, with so many nodes.
func plainMay(nodes int, p api.Policy) bool {
	its := nodesOf(p.Mask)
	if slices.ContainsFunc(its, func(node int) bool { return node >= nodes }) {
		return false
	}
	switch p.Kind {
	case local:
		return len(its) == 0
	case preferred:
		return len(its) == 1
	}
	return (p.Kind == bind || p.Kind == interleave) && len(its) > 0
}

// nearest is all nodes of the config, each time the nearest one to the node that is left, with the smallest number.
func nearest(c api.Config, node int) []int {
	var l []int
	for len(l) < c.Nodes {
		best := -1
		for n := range c.Nodes {
			if !slices.Contains(l, n) && (best < 0 || c.Distance[node][n] < c.Distance[node][best]) {
				best = n
			}
		}
		l = append(l, best)
	}
	return l
}

// plainOrder is what Order is to answer, if there is nothing wrong.
func plainOrder(c api.Config, p api.Policy, node, page int) []int {
	near, its := nearest(c, node), nodesOf(p.Mask)
	in := func(n int) bool { return slices.Contains(its, n) }
	switch p.Kind {
	case preferred:
		return nearest(c, its[0])
	case bind:
		return slices.DeleteFunc(near, func(n int) bool { return !in(n) })
	case interleave:
		var turns []int
		for i := range its {
			turns = append(turns, its[(page%len(its)+i)%len(its)])
		}
		return append(turns, slices.DeleteFunc(near, in)...)
	}
	return near
}

// policies are all policies that may be of a config with so many nodes.
func policies(nodes int) []api.Policy {
	l := []api.Policy{{}}
	for mask := 1; mask < 1<<nodes; mask++ {
		for _, kind := range []api.PolicyKind{preferred, bind, interleave} {
			if p := (api.Policy{Kind: kind, Mask: uint8(mask)}); plainMay(nodes, p) {
				l = append(l, p)
			}
		}
	}
	return l
}

// few are some policies that may be of each config with three nodes or more: one of each kind, and of each such mask.
func few() []api.Policy {
	return []api.Policy{
		{}, {Kind: preferred, Mask: 1}, {Kind: preferred, Mask: 4}, {Kind: bind, Mask: 2}, {Kind: bind, Mask: 5}, {Kind: bind, Mask: 7},
		{Kind: interleave, Mask: 1}, {Kind: interleave, Mask: 6}, {Kind: interleave, Mask: 7},
	}
}

// wrongPolicies are policies that may not be of a config with three nodes.
func wrongPolicies() []api.Policy {
	var l []api.Policy
	for _, kind := range kinds {
		for _, mask := range []uint8{0, 1, 2, 4, 3, 5, 7, 8, 9, 15, 16, 128, 129, 254, 255} {
			if p := (api.Policy{Kind: kind, Mask: mask}); !plainMay(3, p) {
				l = append(l, p)
			}
		}
	}
	return l
}

// wantMay holds what May answers against what it is to answer.
func wantMay(t *testing.T, x machine, p api.Policy, want bool) {
	t.Helper()
	if got := policy.May(x.c, p); got != want {
		t.Errorf("%s, %d nodes: May(%v): %t", x.what, x.c.Nodes, p, got)
	}
}

// wantOrder holds what Order answers against these nodes.
func wantOrder(t *testing.T, x machine, p api.Policy, node, page int, want ...int) {
	t.Helper()
	if got, e := policy.Order(x.c, p, node, page); e != api.OK || !slices.Equal(got, want) {
		t.Errorf("%s, %d nodes: Order(%v, %d, %d): %v, error %d; not %v", x.what, x.c.Nodes, p, node, page, got, e, want)
	}
}

// wantNoOrder holds what Order answers against the error that it is to answer.
func wantNoOrder(t *testing.T, x machine, p api.Policy, node, page int, want api.Errno) {
	t.Helper()
	if got, e := policy.Order(x.c, p, node, page); len(got) != 0 || e != want {
		t.Errorf("%s, %d nodes: Order(%v, %d, %d): %v, error %d; not error %d", x.what, x.c.Nodes, p, node, page, got, e, want)
	}
}

// wantAllowed holds what Allowed answers against what it is to answer.
func wantAllowed(t *testing.T, p api.Policy, node int, want bool) {
	t.Helper()
	if got := policy.Allowed(p, node); got != want {
		t.Errorf("Allowed(%v, %d): %t", p, node, got)
	}
}

// The kinds have the numbers that the chapter gives them.
func TestKinds(t *testing.T) {
	if api.PolicyLocal != local || api.PolicyPreferred != preferred || api.PolicyBind != bind || api.PolicyInterleave != interleave {
		t.Error("the kinds are not 0 to 3")
	}
}

func TestExamples(t *testing.T) {
	x := machine{"the examples", alike(3)}
	wantOrder(t, x, api.Policy{Kind: bind, Mask: 1<<0 | 1<<2}, 2, 0, 2, 0)
	wantOrder(t, x, api.Policy{Kind: interleave, Mask: 1<<0 | 1<<2}, 1, 5, 2, 0, 1)
	wantOrder(t, x, api.Policy{Kind: preferred, Mask: 1 << 1}, 0, 0, 1, 0, 2)
}

// Each kind and each mask, of configs of each number of nodes: kinds that are none have no mask that may be.
func TestP18_1May(t *testing.T) {
	for nodes := 1; nodes <= maxNodes; nodes++ {
		x := machine{"alike", alike(nodes)}
		for kind := range 256 {
			for mask := range 256 {
				p := api.Policy{Kind: api.PolicyKind(kind), Mask: uint8(mask)}
				wantMay(t, x, p, plainMay(nodes, p))
			}
		}
	}
}

// The chapter's words, by masks: none, one node's bit, several, all nodes', a bit that is no node's, alone and beside others.
func TestP18_1MayByHand(t *testing.T) {
	for _, x := range []struct {
		nodes                              int
		mask                               uint8
		local, preferred, bind, interleave bool
	}{
		{3, 0, true, false, false, false},
		{3, 1, false, true, true, true}, {3, 2, false, true, true, true}, {3, 4, false, true, true, true},
		{3, 3, false, false, true, true}, {3, 5, false, false, true, true}, {3, 6, false, false, true, true}, {3, 7, false, false, true, true},
		{3, 8, false, false, false, false}, {3, 16, false, false, false, false}, {3, 128, false, false, false, false},
		{3, 9, false, false, false, false}, {3, 15, false, false, false, false}, {3, 129, false, false, false, false}, {3, 255, false, false, false, false},
		{1, 0, true, false, false, false}, {1, 1, false, true, true, true}, {1, 2, false, false, false, false}, {1, 3, false, false, false, false},
		{1, 128, false, false, false, false}, {1, 255, false, false, false, false},
		{7, 64, false, true, true, true}, {7, 127, false, false, true, true}, {7, 128, false, false, false, false}, {7, 255, false, false, false, false},
		{8, 0, true, false, false, false}, {8, 128, false, true, true, true}, {8, 129, false, false, true, true}, {8, 255, false, false, true, true},
	} {
		m := machine{"by hand", line(x.nodes)}
		wantMay(t, m, api.Policy{Kind: local, Mask: x.mask}, x.local)
		wantMay(t, m, api.Policy{Kind: preferred, Mask: x.mask}, x.preferred)
		wantMay(t, m, api.Policy{Kind: bind, Mask: x.mask}, x.bind)
		wantMay(t, m, api.Policy{Kind: interleave, Mask: x.mask}, x.interleave)
		for _, kind := range kinds[4:] {
			wantMay(t, m, api.Policy{Kind: kind, Mask: x.mask}, false)
		}
	}
}

// What else a config has, if it may be, changes nothing.
func TestP18_1MayOfMachines(t *testing.T) {
	for _, x := range machines() {
		for _, kind := range kinds {
			for mask := range 256 {
				p := api.Policy{Kind: kind, Mask: uint8(mask)}
				wantMay(t, x, p, plainMay(x.c.Nodes, p))
			}
		}
	}
}

// Of a config that may not be no policy may be.
func TestP18_1MayOfWrongMachines(t *testing.T) {
	for _, x := range wrongMachines() {
		for _, kind := range kinds {
			for mask := range 256 {
				wantMay(t, x, api.Policy{Kind: kind, Mask: uint8(mask)}, false)
			}
		}
	}
}

// Each policy that may be, of each node, and of many pages.
func TestP18_1Order(t *testing.T) {
	for _, x := range machines() {
		for _, p := range policies(x.c.Nodes) {
			for node := range x.c.Nodes {
				for _, page := range pages {
					wantOrder(t, x, p, node, page, plainOrder(x.c, p, node, page)...)
				}
			}
		}
	}
}

func TestP18_1OrderByHand(t *testing.T) {
	for _, x := range []struct {
		m          machine
		p          api.Policy
		node, page int
		want       []int
	}{
		{machine{"alike", alike(3)}, api.Policy{}, 1, 7, []int{1, 0, 2}},
		{machine{"alike", alike(1)}, api.Policy{}, 0, 0, []int{0}},
		{machine{"alike", alike(1)}, api.Policy{Kind: preferred, Mask: 1}, 0, 9, []int{0}},
		{machine{"alike", alike(1)}, api.Policy{Kind: bind, Mask: 1}, 0, 9, []int{0}},
		{machine{"alike", alike(1)}, api.Policy{Kind: interleave, Mask: 1}, 0, 9, []int{0}},
		{machine{"a line", line(5)}, api.Policy{}, 2, 0, []int{2, 1, 3, 0, 4}},
		{machine{"a line", line(5)}, api.Policy{}, 4, 1, []int{4, 3, 2, 1, 0}},
		{machine{"a line", line(5)}, api.Policy{Kind: preferred, Mask: 8}, 0, 0, []int{3, 2, 4, 1, 0}},
		{machine{"a line", line(5)}, api.Policy{Kind: preferred, Mask: 8}, 4, 3, []int{3, 2, 4, 1, 0}},
		{machine{"a line", line(5)}, api.Policy{Kind: bind, Mask: 27}, 2, 0, []int{1, 3, 0, 4}},
		{machine{"a line", line(5)}, api.Policy{Kind: bind, Mask: 27}, 4, 0, []int{4, 3, 1, 0}},
		{machine{"a line", line(5)}, api.Policy{Kind: bind, Mask: 1}, 4, 0, []int{0}},
		{machine{"a line", line(5)}, api.Policy{Kind: interleave, Mask: 26}, 2, 0, []int{1, 3, 4, 2, 0}},
		{machine{"a line", line(5)}, api.Policy{Kind: interleave, Mask: 26}, 2, 1, []int{3, 4, 1, 2, 0}},
		{machine{"a line", line(5)}, api.Policy{Kind: interleave, Mask: 26}, 0, 2, []int{4, 1, 3, 0, 2}},
		{machine{"a line", line(5)}, api.Policy{Kind: interleave, Mask: 26}, 4, 3, []int{1, 3, 4, 2, 0}},
		{machine{"a line", line(5)}, api.Policy{Kind: interleave, Mask: 2}, 4, 3, []int{1, 4, 3, 2, 0}},
		{machine{"falling", falling(4)}, api.Policy{}, 1, 0, []int{1, 3, 2, 0}},
		{machine{"falling", falling(4)}, api.Policy{Kind: bind, Mask: 13}, 0, 0, []int{0, 3, 2}},
		{machine{"falling", falling(4)}, api.Policy{Kind: interleave, Mask: 9}, 1, 1, []int{3, 0, 1, 2}},
		{machine{"falling", falling(4)}, api.Policy{Kind: interleave, Mask: 9}, 3, 0, []int{0, 3, 2, 1}},
		{machine{"alike", alike(8)}, api.Policy{Kind: bind, Mask: 255}, 7, 0, []int{7, 0, 1, 2, 3, 4, 5, 6}},
		{machine{"alike", alike(8)}, api.Policy{Kind: interleave, Mask: 255}, 7, 0, []int{0, 1, 2, 3, 4, 5, 6, 7}},
		{machine{"alike", alike(8)}, api.Policy{Kind: interleave, Mask: 255}, 0, 13, []int{5, 6, 7, 0, 1, 2, 3, 4}},
		{machine{"alike", alike(8)}, api.Policy{Kind: interleave, Mask: 128}, 3, 1, []int{7, 3, 0, 1, 2, 4, 5, 6}},
	} {
		wantOrder(t, x.m, x.p, x.node, x.page, x.want...)
	}
}

// Nodes as far from one another, and nearer ones, stand as layer 2 has them.
func TestP18_1OrderIsLayer2s(t *testing.T) {
	for _, x := range machines() {
		for node := range x.c.Nodes {
			near, e := config.Order(x.c, node)
			if e != api.OK {
				t.Fatalf("%s: layer 2 has no order of %d: error %d", x.what, node, e)
			}
			all := uint8(1<<x.c.Nodes - 1)
			wantOrder(t, x, api.Policy{}, node, 3, near...)
			wantOrder(t, x, api.Policy{Kind: bind, Mask: all}, node, 3, near...)
			for other := range x.c.Nodes {
				wantOrder(t, x, api.Policy{Kind: preferred, Mask: 1 << node}, other, 3, near...)
				rest := slices.DeleteFunc(slices.Clone(near), func(n int) bool { return n == other })
				wantOrder(t, x, api.Policy{Kind: interleave, Mask: 1 << other}, node, 3, append([]int{other}, rest...)...)
				if x.c.Nodes > 1 {
					wantOrder(t, x, api.Policy{Kind: bind, Mask: all &^ (1 << other)}, node, 3, rest...)
				}
			}
		}
	}
}

// What each policy allows is there once, and nothing else.
func TestP18_1OrderHasEachOnce(t *testing.T) {
	for _, x := range machines() {
		for _, p := range policies(x.c.Nodes) {
			for node := range x.c.Nodes {
				var allowed []int
				for n := range x.c.Nodes {
					if p.Kind != bind || slices.Contains(nodesOf(p.Mask), n) {
						allowed = append(allowed, n)
					}
				}
				got, e := policy.Order(x.c, p, node, 5)
				if slices.Sort(got); e != api.OK || !slices.Equal(got, allowed) {
					t.Errorf("%s, %d nodes: Order(%v, %d, 5) has %v, error %d; not %v", x.what, x.c.Nodes, p, node, got, e, allowed)
				}
				for n := range x.c.Nodes {
					wantAllowed(t, p, n, slices.Contains(got, n))
				}
			}
		}
	}
}

// Pages one behind the other begin at the mask's nodes one behind the other, once round and again, wherever the CPU is.
func TestP18_1OrderByTurns(t *testing.T) {
	for _, c := range []api.Config{alike(8), line(8), falling(8), parted(8)} {
		for mask := 1; mask < 256; mask++ {
			its := nodesOf(uint8(mask))
			for page := range 3*len(its) + 1 {
				for node := range 8 {
					got, e := policy.Order(c, api.Policy{Kind: interleave, Mask: uint8(mask)}, node, page)
					if e != api.OK || len(got) != 8 || got[0] != its[page%len(its)] {
						t.Errorf("mask %d, CPU of %d: page %d: %v, error %d", mask, node, page, got, e)
					}
				}
			}
		}
	}
}

// At the ends of a round, and at the greatest page, which is 2^63 - 1: its rests are worked out by hand.
func TestP18_1OrderOfPages(t *testing.T) {
	rests := []int{0, 0, 1, 1, 3, 2, 1, 0, 7}
	for mask := 1; mask < 256; mask++ {
		its := nodesOf(uint8(mask))
		many := len(its)
		for _, x := range []struct{ page, first int }{
			{0, 0}, {1, 1 % many}, {many - 1, many - 1}, {many, 0}, {many + 1, 1 % many}, {1024 * many, 0}, {math.MaxInt, rests[many]},
		} {
			p := api.Policy{Kind: interleave, Mask: uint8(mask)}
			want := slices.Concat(its[x.first:], its[:x.first])
			for node := range 8 {
				if !slices.Contains(its, node) {
					want = append(want, node)
				}
			}
			wantOrder(t, machine{"alike", alike(8)}, p, its[0], x.page, want...)
		}
	}
}

// Of the other kinds each page has the same order.
func TestP18_1OrderOfOtherKinds(t *testing.T) {
	for _, x := range machines() {
		for _, p := range policies(x.c.Nodes) {
			first, e := policy.Order(x.c, p, 0, 0)
			if p.Kind == interleave || e != api.OK {
				continue
			}
			for _, page := range pages {
				wantOrder(t, x, p, 0, page, first...)
			}
		}
	}
}

// A local that is no node: ErrNone, whatever the policy, and though the nodes of its mask are some.
func TestP18_1OrderOfNoNode(t *testing.T) {
	for _, x := range machines() {
		for _, p := range policies(min(x.c.Nodes, 3)) {
			for _, page := range []int{0, 1, 2, math.MaxInt} {
				for _, node := range append(slices.Clone(noNodes), x.c.Nodes, x.c.Nodes+1, -x.c.Nodes) {
					wantNoOrder(t, x, p, node, page, api.ErrNone)
				}
				wantOrder(t, x, p, x.c.Nodes-1, page, plainOrder(x.c, p, x.c.Nodes-1, page)...)
			}
		}
	}
}

// A page below 0: ErrArg, whatever the policy, and whether local is a node or none.
func TestP18_1OrderOfNoPage(t *testing.T) {
	for _, x := range []machine{{"alike", alike(3)}, {"a line", line(8)}} {
		for _, p := range few() {
			for _, page := range noPages {
				for _, node := range append([]int{0, 1, 2, 3}, noNodes...) {
					wantNoOrder(t, x, p, node, page, api.ErrArg)
				}
			}
		}
	}
}

// A policy that may not be: ErrArg, whatever local and page are.
func TestP18_1OrderOfWrongPolicies(t *testing.T) {
	x := machine{"alike", alike(3)}
	for _, p := range wrongPolicies() {
		for _, node := range append([]int{0, 1, 2, 3}, noNodes...) {
			for _, page := range []int{math.MinInt, -1, 0, 1, 2, 3, math.MaxInt} {
				wantNoOrder(t, x, p, node, page, api.ErrArg)
			}
		}
	}
}

// A policy that may be elsewhere may not be where its node is none: ErrArg.
func TestP18_1OrderOfFewNodes(t *testing.T) {
	for nodes := 1; nodes < maxNodes; nodes++ {
		for _, kind := range []api.PolicyKind{preferred, bind, interleave} {
			x, last, none := machine{"a line", line(nodes)}, uint8(1)<<(nodes-1), uint8(1)<<nodes
			p := api.Policy{Kind: kind, Mask: last}
			wantOrder(t, x, p, 0, 1, plainOrder(x.c, p, 0, 1)...)
			wantNoOrder(t, x, api.Policy{Kind: kind, Mask: none}, 0, 1, api.ErrArg)
			wantNoOrder(t, x, api.Policy{Kind: kind, Mask: last | none}, 0, 1, api.ErrArg)
		}
	}
}

// A config that may not be: ErrArg, whatever else is asked.
func TestP18_1OrderOfWrongMachines(t *testing.T) {
	for _, x := range wrongMachines() {
		for _, p := range append(few(), wrongPolicies()...) {
			for _, node := range []int{math.MinInt, -1, 0, 1, 2, 3, 8, math.MaxInt} {
				for _, page := range []int{math.MinInt, -1, 0, 1, math.MaxInt} {
					wantNoOrder(t, x, p, node, page, api.ErrArg)
				}
			}
		}
	}
}

// What is told is the caller's own: written over, or added to, it changes no other answer.
func TestP18_1OrderIsTheCallers(t *testing.T) {
	x := machine{"a line", line(5)}
	for _, p := range few() {
		for node := range 5 {
			want := plainOrder(x.c, p, node, 4)
			first, _ := policy.Order(x.c, p, node, 4)
			second, _ := policy.Order(x.c, p, node, 4)
			for i := range first {
				first[i] = -7
			}
			_ = append(first, -8)
			_ = append(first[:0], -9, -9, -9, -9, -9, -9, -9, -9)
			if !slices.Equal(second, want) {
				t.Errorf("Order(%v, %d, 4): what was told is %v by now, not %v", p, node, second, want)
			}
			wantOrder(t, x, p, node, 4, want...)
		}
	}
}

// Each kind, each mask, each node: of bind those of the mask, of all others each one.
func TestP18_2Allowed(t *testing.T) {
	for kind := range 256 {
		for mask := range 256 {
			p := api.Policy{Kind: api.PolicyKind(kind), Mask: uint8(mask)}
			its := nodesOf(p.Mask)
			for node := range maxNodes {
				wantAllowed(t, p, node, p.Kind != bind || slices.Contains(its, node))
			}
		}
	}
}

// On what is no node pages may not lie, whatever the policy is.
func TestP18_2AllowedOnNoNode(t *testing.T) {
	for _, kind := range kinds {
		for mask := range 256 {
			for _, node := range noNodes {
				wantAllowed(t, api.Policy{Kind: kind, Mask: uint8(mask)}, node, false)
			}
		}
	}
}

func TestP18_2AllowedByHand(t *testing.T) {
	for _, x := range []struct {
		kind api.PolicyKind
		mask uint8
		node int
		want bool
	}{
		{local, 0, 0, true}, {local, 0, 7, true}, {local, 0, 8, false}, {local, 0, -1, false}, {local, 5, 1, true},
		{preferred, 2, 0, true}, {preferred, 2, 1, true}, {preferred, 2, 7, true}, {preferred, 2, 8, false}, {preferred, 0, 3, true},
		{interleave, 5, 1, true}, {interleave, 5, 2, true}, {interleave, 5, 7, true}, {interleave, 5, -1, false}, {interleave, 0, 0, true},
		{bind, 5, 0, true}, {bind, 5, 1, false}, {bind, 5, 2, true}, {bind, 5, 3, false}, {bind, 5, 8, false}, {bind, 5, -1, false},
		{bind, 0, 0, false}, {bind, 0, 7, false}, {bind, 128, 7, true}, {bind, 128, 6, false}, {bind, 128, -1, false}, {bind, 1, 0, true}, {bind, 1, 8, false},
		{bind, 255, 0, true}, {bind, 255, 7, true}, {bind, 255, 8, false}, {bind, 255, -1, false}, {bind, 255, math.MinInt, false}, {bind, 255, math.MaxInt, false},
		{4, 0, 0, true}, {4, 1, 7, true}, {4, 255, 8, false}, {255, 0, 3, true}, {255, 0, 8, false}, {255, 0, math.MinInt, false}, {255, 255, math.MaxInt, false},
	} {
		wantAllowed(t, api.Policy{Kind: x.kind, Mask: x.mask}, x.node, x.want)
	}
}
