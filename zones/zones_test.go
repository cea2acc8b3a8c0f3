package zones_test

import (
	"math"
	"slices"
	"strconv"
	"testing"

	"byre/api"
	"byre/buddy"
	"byre/config"
	"byre/zones"
)

// far are numbers that are no nodes, nor orders; none is a frame's.
var far = []int{math.MinInt, math.MinInt + 1, -1 << 32, -64, -8, -2, -1, 1024, 1 << 20, 1 << 32, 1<<32 + 1, 1<<32 + 4, math.MaxInt - 1, math.MaxInt}

// noOrders are numbers that are no block's order.
var noOrders = []int{math.MinInt, -1 << 32, -64, -2, -1, api.MaxOrder + 1, 63, 64, 1 << 32, math.MaxInt}

// both are the ends to take from.
var both = []bool{false, true}

// made is a config with nodes of so many frames.
func made(frames ...int) api.Config {
	c := api.Config{Nodes: len(frames), CPUs: 1}
	for a := range frames {
		c.Frames[a] = frames[a]
		for b := range frames {
			if a != b {
				c.Distance[a][b] = 10
			}
		}
	}
	return c
}

// marked is c with these watermarks.
func marked(c api.Config, least, low, high int) api.Config {
	c.Min, c.Low, c.High = least, low, high
	return c
}

// plain is the nodes of a config one by one, and what was taken of each.
type plain struct {
	c      api.Config
	starts []int // where each node's frames begin
	nodes  []*buddy.Buddy
}

// newPlain is plain nodes, all of them free.
func newPlain(c api.Config) *plain {
	p := &plain{c: c}
	start := 0
	for _, many := range c.Frames[:c.Nodes] {
		b, _ := buddy.New(many)
		p.starts, p.nodes = append(p.starts, start), append(p.nodes, b)
		start += many
	}
	return p
}

// is tells whether there is such a node.
func (p *plain) is(node int) bool {
	return node >= 0 && node < len(p.nodes)
}

// take is what Take is to answer, and to do.
func (p *plain) take(nodes []int, floor int, high bool) (int, api.Errno) {
	if floor < 0 {
		return 0, api.ErrArg
	}
	for _, node := range nodes {
		if !p.is(node) {
			return 0, api.ErrArg
		}
	}
	for _, node := range nodes {
		if p.nodes[node].Free() > floor {
			return p.takeOf(node, 0, high)
		}
	}
	return 0, api.ErrMemory
}

// takeOf is what TakeOf is to answer, and to do.
func (p *plain) takeOf(node, order int, high bool) (int, api.Errno) {
	if !p.is(node) {
		return 0, api.ErrNone
	}
	at, e := p.nodes[node].Take(order, high)
	if e != api.OK {
		return 0, e
	}
	return p.starts[node] + at, api.OK
}

// give is what Give is to answer, and to do.
func (p *plain) give(frame, order int) api.Errno {
	for node, b := range p.nodes {
		if frame >= p.starts[node] && frame < p.starts[node]+b.Frames() {
			return b.Give(frame-p.starts[node], order)
		}
	}
	return api.ErrNone
}

// free is what Free is to tell.
func (p *plain) free(node int) int {
	if !p.is(node) {
		return 0
	}
	return p.nodes[node].Free()
}

// state is what State is to tell.
func (p *plain) state(node int) api.State {
	state := api.Bare
	for _, mark := range []int{p.c.Min, p.c.Low, p.c.High} { // each one is below the next one or just as great
		if p.is(node) && p.nodes[node].Free() > mark {
			state++
		}
	}
	return state
}

// blocks is what Blocks is to tell.
func (p *plain) blocks() []api.Block {
	var all []api.Block
	for node, b := range p.nodes {
		for x := range b.Blocks() {
			all = append(all, api.Block{At: p.starts[node] + x.At, Order: x.Order})
		}
	}
	return all
}

// copy is other plain nodes that are the same.
func (p *plain) copy() *plain {
	other := &plain{c: p.c, starts: p.starts}
	for _, b := range p.nodes {
		other.nodes = append(other.nodes, b.Copy())
	}
	return other
}

// blocks are those of which the numbers tell, by twos, the first frame and the order.
func blocks(numbers ...int) []api.Block {
	var all []api.Block
	for pair := range slices.Chunk(numbers, 2) {
		all = append(all, api.Block{At: pair[0], Order: pair[1]})
	}
	return all
}

// of is the zones of a machine of c.
func of(t *testing.T, c api.Config) *zones.Zones {
	t.Helper()
	z, e := zones.New(c)
	if z == nil || e != api.OK {
		t.Fatalf("New(%v): %v, error %d", c, z, e)
	}
	return z
}

// wantTake holds what Take answers against what it is to answer; the list of nodes must stay as it was.
func wantTake(t *testing.T, z *zones.Zones, nodes []int, floor int, high bool, frame int, err api.Errno) {
	t.Helper()
	before := slices.Clone(nodes)
	if got, e := z.Take(nodes, floor, high); got != frame || e != err {
		t.Errorf("Take(%v, %d, %t): %d, error %d; not %d, error %d", before, floor, high, got, e, frame, err)
	}
	if !slices.Equal(nodes, before) {
		t.Errorf("Take(%v) made the list %v", before, nodes)
	}
}

// wantTakeOf holds what TakeOf answers against what it is to answer.
func wantTakeOf(t *testing.T, z *zones.Zones, node, order int, high bool, frame int, err api.Errno) {
	t.Helper()
	if got, e := z.TakeOf(node, order, high); got != frame || e != err {
		t.Errorf("TakeOf(%d, %d, %t): %d, error %d; not %d, error %d", node, order, high, got, e, frame, err)
	}
}

// wantGive holds what Give answers against the error that it is to tell.
func wantGive(t *testing.T, z *zones.Zones, frame, order int, err api.Errno) {
	t.Helper()
	if e := z.Give(frame, order); e != err {
		t.Errorf("Give(%d, %d): error %d, not %d", frame, order, e, err)
	}
}

// wantFree holds what Free and State tell of the nodes, one after the other, against how many frames are to be free, and the states.
func wantFree(t *testing.T, what string, z *zones.Zones, free []int, states ...api.State) {
	t.Helper()
	for node := range free {
		if got, state := z.Free(node), z.State(node); got != free[node] || state != states[node] {
			t.Errorf("%s: %d free of the node %d, state %d; not %d, %d", what, got, node, state, free[node], states[node])
		}
	}
}

// wantBlocks holds what Blocks tells against the blocks that are to be free.
func wantBlocks(t *testing.T, what string, z *zones.Zones, numbers ...int) {
	t.Helper()
	if got := slices.Collect(z.Blocks()); !slices.Equal(got, blocks(numbers...)) {
		t.Errorf("%s: the free blocks %v, not %v", what, got, blocks(numbers...))
	}
}

// wantZones holds all that zones tell against what they are to tell.
func wantZones(t *testing.T, what string, z *zones.Zones, p *plain) {
	t.Helper()
	for _, node := range append([]int{0, 1, 2, 3, 4, 5, 6, 7, 8, 9, 128}, far...) {
		if got := z.Free(node); got != p.free(node) {
			t.Errorf("%s: %d free of the node %d, not %d", what, got, node, p.free(node))
		}
		if got := z.State(node); got != p.state(node) {
			t.Errorf("%s: the state %d of the node %d, not %d", what, got, node, p.state(node))
		}
	}
	if got := slices.Collect(z.Blocks()); !slices.Equal(got, p.blocks()) {
		t.Errorf("%s: the free blocks %v, not %v", what, got, p.blocks())
	}
}

// wrong are configs that may not be, by what is wrong with them.
func wrong() map[string]api.Config {
	all := map[string]api.Config{"a zero one": {}}
	for what, change := range map[string]func(c *api.Config){
		"no nodes":                     func(c *api.Config) { c.Nodes = 0 },
		"nodes below 0":                func(c *api.Config) { c.Nodes = math.MinInt },
		"more nodes than are told of":  func(c *api.Config) { c.Nodes = 4 },
		"fewer nodes":                  func(c *api.Config) { c.Nodes = 2 },
		"too many nodes":               func(c *api.Config) { c.Nodes = api.MaxNodes + 1 },
		"far too many nodes":           func(c *api.Config) { c.Nodes = math.MaxInt },
		"no CPUs":                      func(c *api.Config) { c.CPUs = 0 },
		"too many CPUs":                func(c *api.Config) { c.CPUs = api.MaxCPUs + 1 },
		"a Home below 0":               func(c *api.Config) { c.Home[0] = -1 },
		"a Home that is no node":       func(c *api.Config) { c.Home[0] = 3 },
		"a Home behind":                func(c *api.Config) { c.Home[1] = 1 },
		"no frames":                    func(c *api.Config) { c.Frames[1] = 0 },
		"frames below 0":               func(c *api.Config) { c.Frames[1] = -4 },
		"one frame":                    func(c *api.Config) { c.Frames[1] = 1 },
		"too few frames":               func(c *api.Config) { c.Frames[2] = 3 },
		"too many frames":              func(c *api.Config) { c.Frames[0] = api.MaxFrames + 1 },
		"frames behind":                func(c *api.Config) { c.Frames[3] = 4 },
		"a distance 0":                 func(c *api.Config) { c.Distance[0][1], c.Distance[1][0] = 0, 0 },
		"a distance too great":         func(c *api.Config) { c.Distance[0][1], c.Distance[1][0] = 256, 256 },
		"distances that are not alike": func(c *api.Config) { c.Distance[2][0] = 11 },
		"a distance to itself":         func(c *api.Config) { c.Distance[1][1] = 1 },
		"a distance behind":            func(c *api.Config) { c.Distance[3][7] = 10 },
		"slots below 0":                func(c *api.Config) { c.Slots = -1 },
		"too many slots":               func(c *api.Config) { c.Slots = api.MaxSlots + 1 },
		"Min below 0":                  func(c *api.Config) { c.Min = -1 },
		"Min above Low":                func(c *api.Config) { c.Min = 1 },
		"Low above High":               func(c *api.Config) { c.Low = 1 },
		"High above the least node":    func(c *api.Config) { c.High = 5 },
	} {
		c := made(4, 6, 5)
		change(&c)
		all[what] = c
	}
	return all
}

func TestP7_1NewWrong(t *testing.T) {
	for what, c := range wrong() {
		if z, e := zones.New(c); z != nil || e != api.ErrArg {
			t.Errorf("%s: %v, error %d", what, z, e)
		}
	}
	if z, e := zones.New(made(1)); z != nil || e != api.ErrArg {
		t.Errorf("a node of one frame alone: %v, error %d", z, e)
	}
}

func TestP7_1New(t *testing.T) {
	for _, c := range []api.Config{
		config.Least(4), config.Least(7), config.Least(128), made(4, 4), made(4, 6, 5),
		made(128, 4), made(4, 128, 127), made(5, 6, 7, 8, 9, 10, 11, 12),
		made(128, 128, 128, 128, 128, 128, 128, 128), marked(made(4, 9), 4, 4, 4), marked(made(8, 9), 2, 4, 7),
	} {
		wantZones(t, "New", of(t, c), newPlain(c))
	}
}

// At first all is free: of each node the greatest blocks stand in front, wherever its frames begin.
func TestP7_1NewBlocks(t *testing.T) {
	wantBlocks(t, "the least one", of(t, config.Least(0)), 0, 2)
	wantBlocks(t, "128", of(t, config.Least(128)), 0, 7)
	wantBlocks(t, "5, 7, 4", of(t, made(5, 7, 4)), 0, 2, 4, 0, 5, 2, 9, 1, 11, 0, 12, 2)
	wantBlocks(t, "6, 128, 12", of(t, made(6, 128, 12)), 0, 2, 4, 1, 6, 7, 134, 3, 142, 2)
	z := of(t, made(6, 128, 12))
	wantFree(t, "6, 128, 12", z, []int{6, 128, 12, 0, 0}, api.Well, api.Well, api.Well, api.Bare, api.Bare)
}

func TestP7_1TwoZones(t *testing.T) {
	c := made(4, 6)
	a, b := of(t, c), of(t, c)
	wantTake(t, a, []int{1}, 0, false, 8, api.OK)
	wantZones(t, "other zones", b, newPlain(c))
	wantGive(t, b, 8, 0, api.ErrArg)
	wantGive(t, a, 8, 0, api.OK)
	wantZones(t, "given back", a, newPlain(c))
}

func TestP7_2Examples(t *testing.T) {
	z := of(t, marked(made(4, 4), 1, 2, 3))
	for _, frame := range []int{4, 5, 6, 0} {
		wantTake(t, z, []int{1, 0}, 1, false, frame, api.OK)
	}
	wantFree(t, "the examples", z, []int{3, 1}, api.Low, api.Bare)
}

func TestP7_2TakeOfNoNodes(t *testing.T) {
	z := of(t, made(4, 4))
	for _, nodes := range [][]int{nil, {}} {
		for _, floor := range []int{0, 1, 4, math.MaxInt} {
			wantTake(t, z, nodes, floor, false, 0, api.ErrMemory)
			wantTake(t, z, nodes, floor, true, 0, api.ErrMemory)
		}
		for _, floor := range []int{-1, -4, math.MinInt} {
			wantTake(t, z, nodes, floor, false, 0, api.ErrArg)
		}
	}
	wantZones(t, "Take of no nodes", z, newPlain(made(4, 4)))
}

// Nothing is taken where one of the nodes is none, wherever it stands, and whatever the others have.
func TestP7_2TakeOfWrongNodes(t *testing.T) {
	c := made(4, 6, 5)
	z := of(t, c)
	for _, node := range append([]int{3, 4, 7, 8}, far...) {
		for _, nodes := range [][]int{{node}, {node, 0}, {0, node}, {1, node, 2}, {2, 1, 0, node}, {node, node}, {0, 1, 2, 0, 1, 2, node}} {
			for _, floor := range []int{0, 5, 100, -1, math.MaxInt} {
				for _, high := range both {
					wantTake(t, z, nodes, floor, high, 0, api.ErrArg)
				}
			}
		}
	}
	wantZones(t, "Take of wrong nodes", z, newPlain(c))
	for range 4 {
		z.Take([]int{0}, 0, false)
	}
	wantTake(t, z, []int{0, 3}, 0, false, 0, api.ErrArg) // not ErrMemory, though the node 0 has no more
}

func TestP7_2TakeWithWrongFloors(t *testing.T) {
	c := made(4, 6)
	z := of(t, c)
	for _, floor := range []int{-1, -2, -128, -1 << 32, math.MinInt + 1, math.MinInt} {
		for _, nodes := range [][]int{{0}, {1, 0}, {0, 0}} {
			wantTake(t, z, nodes, floor, false, 0, api.ErrArg)
			wantTake(t, z, nodes, floor, true, 0, api.ErrArg)
		}
	}
	wantZones(t, "Take with wrong floors", z, newPlain(c))
}

// A node gives frames as long as it has more than the floor.
func TestP7_2TakeDownToTheFloor(t *testing.T) {
	for _, floor := range []int{0, 1, 2, 3, 4, 5, 6, 7, 8, math.MaxInt} {
		for _, high := range both {
			z := of(t, made(4, 7))
			for i := range 7 - min(floor, 7) {
				frame, e := z.Take([]int{1}, floor, high)
				if frame < 4 || frame > 10 || e != api.OK || z.Free(1) != 6-i {
					t.Errorf("floor %d, frame %d, error %d, %d left", floor, frame, e, z.Free(1))
				}
			}
			wantTake(t, z, []int{1}, floor, high, 0, api.ErrMemory)
			wantTake(t, z, []int{1, 1, 1}, floor, high, 0, api.ErrMemory)
			if z.Free(1) != min(floor, 7) || z.Free(0) != 4 {
				t.Errorf("floor %d: %d and %d left", floor, z.Free(0), z.Free(1))
			}
		}
	}
}

// Just as many frames as the node has free are too few, one less is enough.
func TestP7_2TakeFloorByTheFrame(t *testing.T) {
	z := of(t, made(6))
	for free := 6; free > 0; free-- {
		for _, floor := range []int{free, free + 1, free + 100, math.MaxInt} {
			wantTake(t, z, []int{0}, floor, false, 0, api.ErrMemory)
		}
		if z.Free(0) != free {
			t.Errorf("%d free, not %d", z.Free(0), free)
		}
		if _, e := z.Take([]int{0}, free-1, false); e != api.OK {
			t.Errorf("floor %d of %d free: error %d", free-1, free, e)
		}
	}
	wantTake(t, z, []int{0}, 0, false, 0, api.ErrMemory)
}

// The first one that has more than the floor is taken from, not the one that has the most.
func TestP7_2TakeOfTheFirst(t *testing.T) {
	c := made(4, 12, 8)
	for _, x := range []struct {
		nodes []int
		floor int
		frame int
	}{
		{[]int{0}, 0, 0},
		{[]int{1}, 0, 12},
		{[]int{2}, 0, 16},
		{[]int{2, 1, 0}, 0, 16},
		{[]int{0, 1, 2}, 3, 0},
		{[]int{0, 1, 2}, 4, 12},
		{[]int{0, 2, 1}, 4, 16},
		{[]int{0, 2, 1}, 7, 16},
		{[]int{0, 2, 1}, 8, 12},
		{[]int{2, 0, 1}, 11, 12},
		{[]int{0, 0, 2, 2, 1}, 4, 16},
		{[]int{1, 1}, 0, 12},
	} {
		z := of(t, c)
		wantTake(t, z, x.nodes, x.floor, false, x.frame, api.OK)
		p := newPlain(c)
		p.take(x.nodes, x.floor, false)
		wantZones(t, "Take", z, p)
		wantTake(t, z, x.nodes, 12, false, 0, api.ErrMemory)
	}
}

func TestP7_2TakeOfBothEnds(t *testing.T) {
	z := of(t, made(6, 7))
	for _, x := range []struct {
		node  int
		high  bool
		frame int
	}{
		{1, false, 12}, {0, true, 5}, {0, true, 4}, {0, true, 3}, {0, false, 2}, {1, true, 11}, {1, false, 10},
		{1, true, 9}, {1, false, 8}, {0, false, 0}, {0, true, 1}, {1, true, 7}, {1, true, 6},
	} {
		wantTake(t, z, []int{x.node}, 0, x.high, x.frame, api.OK)
	}
	wantBlocks(t, "all taken", z)
	wantTake(t, z, []int{1, 0}, 0, false, 0, api.ErrMemory)
	wantTake(t, z, []int{1, 0}, 0, true, 0, api.ErrMemory)
}

// Each order is taken from each node of a machine, from both ends.
func TestP7_2TakeOfEachOrder(t *testing.T) {
	c := made(4, 128, 12, 127)
	for order := range api.MaxOrder + 1 {
		for node := range c.Nodes {
			for _, high := range both {
				z, p := of(t, c), newPlain(c)
				frame, err := p.takeOf(node, order, high)
				wantTakeOf(t, z, node, order, high, frame, err)
				wantZones(t, "TakeOf", z, p)
				if err == api.OK {
					wantGive(t, z, frame, order, api.OK)
				}
				wantZones(t, "Give", z, newPlain(c))
			}
		}
	}
}

func TestP7_2TakeOf(t *testing.T) {
	z := of(t, marked(made(4, 128, 12), 4, 4, 4)) // watermarks keep nothing from it
	wantTakeOf(t, z, 0, 2, false, 0, api.OK)
	wantTakeOf(t, z, 0, 0, false, 0, api.ErrMemory)
	wantTakeOf(t, z, 1, 6, true, 68, api.OK)
	wantTakeOf(t, z, 1, 7, false, 0, api.ErrMemory)
	wantTakeOf(t, z, 1, 0, true, 67, api.OK)
	wantTakeOf(t, z, 2, 2, true, 140, api.OK)
	wantTakeOf(t, z, 2, 1, true, 138, api.OK)
	wantTakeOf(t, z, 2, 3, true, 0, api.ErrMemory)
	wantTakeOf(t, z, 2, 10, false, 0, api.ErrMemory)
	wantBlocks(t, "taken", z, 4, 5, 36, 4, 52, 3, 60, 2, 64, 1, 66, 0, 132, 2, 136, 1)
	wantFree(t, "taken", z, []int{0, 63, 6}, api.Bare, api.Well, api.Well)
}

// That there is no such node is told ahead of what is wrong with the order.
func TestP7_2TakeOfWrong(t *testing.T) {
	c := made(4, 6)
	z := of(t, c)
	for _, high := range both {
		for _, node := range append([]int{2, 3, 7, 8}, far...) {
			for _, order := range append([]int{0, 1, 10}, noOrders...) {
				wantTakeOf(t, z, node, order, high, 0, api.ErrNone)
			}
		}
		for node := range 2 {
			for _, order := range noOrders {
				wantTakeOf(t, z, node, order, high, 0, api.ErrArg)
			}
			for order := 3; order <= api.MaxOrder; order++ {
				wantTakeOf(t, z, node, order, high, 0, api.ErrMemory)
			}
		}
	}
	wantZones(t, "TakeOf", z, newPlain(c))
}

// What was taken is given back by its number through all nodes.
func TestP7_2Give(t *testing.T) {
	c := made(5, 6, 4)
	z := of(t, c)
	wantTake(t, z, []int{2}, 0, true, 14, api.OK)
	wantTakeOf(t, z, 1, 1, false, 9, api.OK)
	wantTake(t, z, []int{0}, 0, false, 4, api.OK)
	wantTakeOf(t, z, 1, 2, false, 5, api.OK)
	wantBlocks(t, "taken", z, 0, 2, 11, 1, 13, 0)
	wantGive(t, z, 9, 1, api.OK)
	wantGive(t, z, 14, 0, api.OK)
	wantBlocks(t, "given back", z, 0, 2, 9, 1, 11, 2)
	wantGive(t, z, 4, 0, api.OK)
	wantGive(t, z, 5, 2, api.OK)
	wantZones(t, "all given back", z, newPlain(c))
}

// Frames beside one another of two nodes are no buddies: nothing goes together over a node's end.
func TestP7_2GiveOverTheEnd(t *testing.T) {
	z := of(t, made(4, 4))
	for range 4 {
		z.Take([]int{0}, 0, false)
		z.Take([]int{1}, 0, false)
	}
	wantGive(t, z, 3, 0, api.OK)
	wantGive(t, z, 4, 0, api.OK)
	wantBlocks(t, "3 and 4", z, 3, 0, 4, 0)
	for _, frame := range []int{0, 1, 2, 5, 6, 7} {
		wantGive(t, z, frame, 0, api.OK)
	}
	wantBlocks(t, "all given back", z, 0, 2, 4, 2)
}

func TestP7_2GiveOfNoFrame(t *testing.T) {
	c := made(4, 6)
	z := of(t, c)
	for range 3 {
		for _, frame := range append([]int{10, 11, 128, 129}, far...) {
			for _, order := range append([]int{0, 1, 2, 10}, noOrders...) {
				wantGive(t, z, frame, order, api.ErrNone)
			}
		}
		z.Take([]int{1, 0}, 0, true)
		z.TakeOf(0, 1, false)
	}
}

// Of each frame each order is given back that was not taken there.
func TestP7_2GiveOfWhatWasNotTaken(t *testing.T) {
	c := made(4, 6, 5)
	z, p := of(t, c), newPlain(c)
	taken := map[api.Block]bool{}
	wantAllRefused := func(what string) {
		t.Helper()
		for frame := range 15 {
			for _, order := range append([]int{0, 1, 2, 3, 10}, noOrders...) {
				if !taken[api.Block{At: frame, Order: order}] {
					wantGive(t, z, frame, order, api.ErrArg)
				}
			}
		}
		wantZones(t, what, z, p)
	}
	wantAllRefused("all free")
	for _, x := range []struct {
		node, order int
		high        bool
	}{{1, 1, false}, {0, 0, true}, {2, 2, false}, {1, 0, false}, {0, 1, false}, {2, 0, true}} {
		frame, err := p.takeOf(x.node, x.order, x.high)
		wantTakeOf(t, z, x.node, x.order, x.high, frame, err)
		taken[api.Block{At: frame, Order: x.order}] = err == api.OK
		wantAllRefused("taken")
	}
	for _, x := range blocks(8, 1, 5, 0, 4, 0, 3, 0, 0, 1, 10, 2, 14, 0) {
		err := p.give(x.At, x.Order)
		wantGive(t, z, x.At, x.Order, err)
		delete(taken, x)
		wantAllRefused("given back")
	}
	for x, ok := range taken {
		if ok {
			t.Errorf("%v was taken, and not given back", x)
		}
	}
}

// A frame's number is its own, not its number within its node, nor another node's.
func TestP7_2GiveOfAnotherNode(t *testing.T) {
	z := of(t, made(4, 4, 4))
	wantTake(t, z, []int{1}, 0, false, 4, api.OK)
	for _, frame := range []int{0, 1, 5, 8} {
		wantGive(t, z, frame, 0, api.ErrArg)
	}
	wantGive(t, z, 4, 1, api.ErrArg)
	wantGive(t, z, 4, 0, api.OK)
	wantGive(t, z, 4, 0, api.ErrArg)
	wantGive(t, z, 0, 2, api.ErrArg)
	wantBlocks(t, "given back", z, 0, 2, 4, 2, 8, 2)
}

// Each state begins one frame above its watermark.
func TestP7_3State(t *testing.T) {
	for _, x := range []struct {
		least, low, high int
		states           []api.State // by how many frames are free, from 0 on
	}{
		{1, 2, 3, []api.State{0, 0, 1, 2, 3, 3, 3}},
		{0, 0, 0, []api.State{0, 3, 3, 3, 3, 3, 3}},
		{0, 0, 2, []api.State{0, 2, 2, 3, 3, 3, 3}},
		{0, 2, 2, []api.State{0, 1, 1, 3, 3, 3, 3}},
		{2, 2, 2, []api.State{0, 0, 0, 3, 3, 3, 3}},
		{0, 2, 4, []api.State{0, 1, 1, 2, 2, 3, 3}},
		{1, 4, 4, []api.State{0, 0, 1, 1, 1, 3, 3}},
		{2, 2, 5, []api.State{0, 0, 0, 2, 2, 2, 3}},
		{6, 6, 6, []api.State{0, 0, 0, 0, 0, 0, 0}},
		{0, 6, 6, []api.State{0, 1, 1, 1, 1, 1, 1}},
		{0, 0, 6, []api.State{0, 2, 2, 2, 2, 2, 2}},
	} {
		z := of(t, marked(made(6, 7), x.least, x.low, x.high))
		var frames []int
		for free := 6; free >= 0; free-- {
			wantFree(t, "going down", z, []int{free}, x.states[free])
			frame, _ := z.Take([]int{0}, 0, false)
			frames = append(frames, frame)
		}
		for free := range 6 {
			wantFree(t, "going up", z, []int{free}, x.states[free])
			wantGive(t, z, frames[free], 0, api.OK)
		}
		if z.Free(1) != 7 || z.State(1) != x.states[6] && x.high < 6 {
			t.Errorf("the other node: %d free, state %d", z.Free(1), z.State(1))
		}
	}
	if api.Bare != 0 || api.Poor != 1 || api.Low != 2 || api.Well != 3 {
		t.Error("the states have other numbers")
	}
}

// One node's frames are no other one's; a block counts for all of its frames.
func TestP7_3FreeInBetween(t *testing.T) {
	z := of(t, marked(made(8, 12, 9), 1, 4, 8))
	wantFree(t, "at first", z, []int{8, 12, 9}, api.Low, api.Well, api.Well)
	wantTakeOf(t, z, 1, 3, false, 8, api.OK)
	wantFree(t, "a block of 8", z, []int{8, 4, 9}, api.Low, api.Poor, api.Well)
	wantTakeOf(t, z, 2, 0, false, 28, api.OK)
	wantFree(t, "one frame", z, []int{8, 4, 8}, api.Low, api.Poor, api.Low)
	wantTakeOf(t, z, 0, 3, true, 0, api.OK)
	wantTakeOf(t, z, 1, 1, true, 18, api.OK)
	wantFree(t, "all of a node", z, []int{0, 2, 8}, api.Bare, api.Poor, api.Low)
	wantTake(t, z, []int{0, 1}, 1, false, 16, api.OK)
	wantFree(t, "down to Min", z, []int{0, 1, 8}, api.Bare, api.Bare, api.Low)
	wantTake(t, z, []int{0, 1}, 1, false, 0, api.ErrMemory)
	wantTakeOf(t, z, 1, 1, false, 0, api.ErrMemory)
	wantFree(t, "nothing taken", z, []int{0, 1, 8}, api.Bare, api.Bare, api.Low)
	wantGive(t, z, 8, 3, api.OK)
	wantGive(t, z, 18, 0, api.ErrArg)
	wantFree(t, "given back", z, []int{0, 9, 8}, api.Bare, api.Well, api.Low)
}

func TestP7_3OfNoNode(t *testing.T) {
	for _, c := range []api.Config{made(4), made(4, 4), marked(made(5, 6, 7), 0, 1, 2), made(4, 4, 4, 4, 4, 4, 4, 4)} {
		z := of(t, c)
		for _, node := range append([]int{c.Nodes, c.Nodes + 1, 8, 9, 64}, far...) {
			if z.Free(node) != 0 || z.State(node) != api.Bare {
				t.Errorf("%d free of the node %d, state %d, of %d nodes", z.Free(node), node, z.State(node), c.Nodes)
			}
		}
	}
}

func TestP7_3Blocks(t *testing.T) {
	z := of(t, made(5, 8, 6, 4))
	wantTake(t, z, []int{0}, 0, true, 4, api.OK)
	wantTakeOf(t, z, 1, 1, false, 5, api.OK)
	wantTakeOf(t, z, 3, 2, false, 19, api.OK)
	wantBlocks(t, "taken", z, 0, 2, 7, 1, 9, 2, 13, 2, 17, 1)
	wantTakeOf(t, z, 0, 2, false, 0, api.OK)
	wantTake(t, z, []int{0, 2}, 0, true, 18, api.OK)
	wantBlocks(t, "nothing of the first and of the last one", z, 7, 1, 9, 2, 13, 2, 17, 0)
	wantTakeOf(t, z, 1, 2, false, 9, api.OK)
	wantTakeOf(t, z, 1, 1, false, 7, api.OK)
	wantBlocks(t, "nothing of one amid others", z, 13, 2, 17, 0)
	wantTakeOf(t, z, 2, 2, false, 13, api.OK)
	wantTake(t, z, []int{2}, 0, false, 17, api.OK)
	wantBlocks(t, "nothing at all", z)
	wantGive(t, z, 19, 2, api.OK)
	wantBlocks(t, "the last one's", z, 19, 2)
}

// Whoever breaks off within a node is told nothing of the nodes behind it, either.
func TestP7_3BlocksBrokenOff(t *testing.T) {
	z := of(t, made(7, 5, 6))
	all := blocks(0, 2, 4, 1, 6, 0, 7, 2, 11, 0, 12, 2, 16, 1)
	seq := z.Blocks()
	for many := range all {
		var told []api.Block
		for x := range seq {
			told = append(told, x)
			if len(told) == many+1 {
				break
			}
		}
		if !slices.Equal(told, all[:many+1]) {
			t.Errorf("broken off behind %d: %v", many+1, told)
		}
		calls := 0
		seq(func(api.Block) bool { calls++; return calls <= many })
		if calls != many+1 {
			t.Errorf("told %d, though broken off behind %d", calls, many+1)
		}
	}
	wantZones(t, "broken off before", z, newPlain(made(7, 5, 6)))
}

// One answer of Blocks tells each time what is then.
func TestP7_3BlocksToldAgain(t *testing.T) {
	z := of(t, made(4, 4))
	seq := z.Blocks()
	want := func(what string, numbers ...int) {
		t.Helper()
		for range 2 {
			if got := slices.Collect(seq); !slices.Equal(got, blocks(numbers...)) {
				t.Errorf("%s: %v, not %v", what, got, blocks(numbers...))
			}
		}
	}
	want("at first", 0, 2, 4, 2)
	wantTakeOf(t, z, 1, 1, true, 6, api.OK)
	want("behind TakeOf", 0, 2, 4, 1)
	wantTake(t, z, []int{0}, 0, false, 0, api.OK)
	want("behind Take", 1, 0, 2, 1, 4, 1)
	wantTakeOf(t, z, 1, 1, true, 4, api.OK)
	want("nothing of the last one", 1, 0, 2, 1)
	wantGive(t, z, 0, 0, api.OK)
	wantGive(t, z, 4, 1, api.OK)
	want("behind Give", 0, 2, 4, 1)
	wantGive(t, z, 6, 1, api.OK)
	want("all given back", 0, 2, 4, 2)
}

// What is taken or given back while blocks are told is seen in those that are told then, of the same node and of later ones.
func TestP7_3BlocksAsTheyAre(t *testing.T) {
	z := of(t, made(4, 4, 4))
	wantTake(t, z, []int{0}, 0, false, 0, api.OK)
	wantTakeOf(t, z, 2, 2, false, 8, api.OK)
	var told []api.Block
	for x := range z.Blocks() {
		told = append(told, x)
		switch x.At {
		case 1:
			wantTakeOf(t, z, 0, 1, false, 2, api.OK)
			wantTake(t, z, []int{1}, 0, true, 7, api.OK)
		case 4:
			wantGive(t, z, 0, 0, api.OK) // of a node in front, so not told any more
			wantGive(t, z, 8, 2, api.OK)
		}
	}
	if want := blocks(1, 0, 4, 1, 6, 0, 8, 2); !slices.Equal(told, want) {
		t.Errorf("told %v, not %v", told, want)
	}
	wantBlocks(t, "behind it", z, 0, 1, 4, 1, 6, 0, 8, 2)
}

func TestP7_3CopyGoesItsOwnWay(t *testing.T) {
	c := marked(made(8, 6, 12), 2, 3, 5)
	z, p := of(t, c), newPlain(c)
	for _, order := range []int{0, 2, 1} {
		frame, err := p.takeOf(2, order, order == 1)
		wantTakeOf(t, z, 2, order, order == 1, frame, err)
	}
	wantTake(t, z, []int{1}, 0, true, 13, api.OK)
	p.take([]int{1}, 0, true)
	y, q := z.Copy(), p.copy()
	seq := y.Blocks()
	wantZones(t, "Copy", y, q)
	wantZones(t, "what was copied", z, p)
	wantTake(t, y, []int{1, 0}, 4, true, 12, api.OK)
	q.take([]int{1, 0}, 4, true)
	wantGive(t, y, 13, 0, q.give(13, 0))
	wantTakeOf(t, y, 0, 3, false, 0, api.OK)
	q.takeOf(0, 3, false)
	wantZones(t, "the copy", y, q)
	wantZones(t, "what the copy did", z, p)
	wantGive(t, z, 13, 0, p.give(13, 0))
	wantTakeOf(t, z, 0, 0, true, 7, api.OK)
	p.takeOf(0, 0, true)
	wantZones(t, "what was copied", z, p)
	wantZones(t, "what that did", y, q)
	x, r := y.Copy(), q.copy()
	wantGive(t, y, 0, 3, q.give(0, 3))
	wantGive(t, y, 12, 0, q.give(12, 0))
	wantZones(t, "a copy's copy", x, r)
	wantZones(t, "a copy that was copied", y, q)
	if got := slices.Collect(seq); !slices.Equal(got, q.blocks()) {
		t.Errorf("a copy's Blocks: %v, not %v", got, q.blocks())
	}
}

func TestP7_3CopyOfEach(t *testing.T) {
	for _, c := range []api.Config{config.Least(4), marked(made(4, 128), 1, 2, 4), made(4, 5, 6, 7, 8, 9, 10, 11)} {
		z := of(t, c)
		wantZones(t, "Copy", z.Copy(), newPlain(c))
		wantZones(t, "what was copied", z, newPlain(c))
	}
}

// The list of nodes may be written over behind the call.
func TestP7_2TakeKeepsNoList(t *testing.T) {
	z := of(t, made(4, 4))
	nodes := []int{1, 0}
	wantTake(t, z, nodes, 0, false, 4, api.OK)
	nodes[0], nodes[1] = 0, 9
	wantTake(t, z, nodes, 0, false, 0, api.ErrArg)
	wantTake(t, z, nodes[:1], 0, false, 0, api.OK)
	wantTake(t, z, []int{1, 0}, 0, false, 5, api.OK)
	wantFree(t, "taken", z, []int{3, 2}, api.Well, api.Well)
}

// What is free and what was taken adds up to all frames, and each frame is once free or once taken.
func wantAll(t *testing.T, what string, z *zones.Zones, total int, taken []api.Block) {
	t.Helper()
	in := make([]int, total)
	free := 0
	for _, x := range append(slices.Collect(z.Blocks()), taken...) {
		for i := range 1 << x.Order {
			in[x.At+i]++
		}
	}
	for _, x := range taken {
		free -= 1 << x.Order
	}
	for node := range api.MaxNodes {
		free -= z.Free(node)
	}
	if free != -total {
		t.Errorf("%s: %d free and taken, not %d", what, -free, total)
	}
	for frame, n := range in {
		if n != 1 {
			t.Errorf("%s: the frame %d is in %d blocks", what, frame, n)
		}
	}
}

// Many calls, one behind the other, of what there is and of what there is not.
func TestP7_InARow(t *testing.T) {
	for which, c := range []api.Config{
		marked(made(4), 0, 1, 2), marked(made(4, 4), 1, 2, 3), marked(made(5, 12, 7), 1, 3, 5),
		marked(made(128, 4, 33), 0, 2, 4), marked(made(8, 9, 10, 11, 12, 13, 14, 15), 2, 4, 8),
	} {
		z, p := of(t, c), newPlain(c)
		total := config.Total(c)
		var taken []api.Block
		x := uint64(which + 1)
		roll := func(n int) int {
			x = x*6364136223846793005 + 1442695040888963407
			return int(x >> 33 % uint64(n))
		}
		for range 1500 {
			high := roll(2) == 1
			switch k := roll(9); {
			case k < 3:
				var nodes []int
				for range roll(4) {
					nodes = append(nodes, roll(c.Nodes))
				}
				if roll(12) == 0 {
					nodes = append(nodes, []int{-1, c.Nodes, 8}[roll(3)])
				}
				floor := roll(7) - 1
				frame, err := p.take(nodes, floor, high)
				wantTake(t, z, nodes, floor, high, frame, err)
				if err == api.OK {
					taken = append(taken, api.Block{At: frame})
				}
			case k < 5:
				node, order := roll(c.Nodes+2)-1, roll(6)-1
				frame, err := p.takeOf(node, order, high)
				wantTakeOf(t, z, node, order, high, frame, err)
				if err == api.OK {
					taken = append(taken, api.Block{At: frame, Order: order})
				}
			case k < 8 && len(taken) > 0:
				i := roll(len(taken))
				wantGive(t, z, taken[i].At, taken[i].Order, p.give(taken[i].At, taken[i].Order))
				taken = slices.Delete(taken, i, i+1)
			default:
				y := api.Block{At: roll(total+2) - 1, Order: roll(6) - 1}
				err := p.give(y.At, y.Order)
				wantGive(t, z, y.At, y.Order, err)
				if err == api.OK {
					i := slices.Index(taken, y)
					taken = slices.Delete(taken, i, i+1)
				}
			}
			wantZones(t, "in a row", z, p)
			wantAll(t, "in a row", z, total, taken)
			if t.Failed() {
				t.Fatal("machine " + strconv.Itoa(which))
			}
		}
		for _, y := range taken {
			wantGive(t, z, y.At, y.Order, api.OK)
		}
		wantZones(t, "all given back", z, newPlain(c))
	}
}

// wantNothing holds what zones that are not there tell against what they are to tell.
func wantNothing(t *testing.T, z *zones.Zones) {
	t.Helper()
	for _, node := range append([]int{0, 1, 7, 8}, far...) {
		if z.Free(node) != 0 || z.State(node) != api.Bare {
			t.Errorf("%d free of the node %d, state %d", z.Free(node), node, z.State(node))
		}
	}
	if y := z.Copy(); y != nil {
		t.Errorf("Copy: %v", y)
	}
	seq := z.Blocks()
	if seq == nil {
		t.Fatal("Blocks: no function")
	}
	for x := range seq {
		t.Errorf("Blocks: %v", x)
	}
}

func TestP7_NotThere(t *testing.T) {
	for _, z := range []*zones.Zones{nil, {}, new(zones.Zones)} {
		for range 2 {
			wantNothing(t, z)
			for _, n := range append([]int{0, 1, 4, 8, 10}, far...) {
				for _, high := range both {
					for _, nodes := range [][]int{nil, {}, {0}, {n}, {0, n}, {n, n}} {
						wantTake(t, z, nodes, 0, high, 0, api.ErrNil)
						wantTake(t, z, nodes, n, high, 0, api.ErrNil)
					}
					wantTakeOf(t, z, 0, n, high, 0, api.ErrNil)
					wantTakeOf(t, z, n, 0, high, 0, api.ErrNil)
					wantTakeOf(t, z, n, n, high, 0, api.ErrNil)
				}
				wantGive(t, z, 0, n, api.ErrNil)
				wantGive(t, z, n, 0, api.ErrNil)
				wantGive(t, z, n, n, api.ErrNil)
			}
		}
	}
}
