package buddy_test

import (
	"cmp"
	"math"
	"slices"
	"strconv"
	"testing"

	"byre/api"
	"byre/buddy"
)

// far are numbers that are no node's frames, nor orders, nor how many frames a node has.
var far = []int{math.MinInt, math.MinInt + 1, -1 << 32, -128, -64, -2, -1, 129, 256, 1024, 1 << 32, 1<<32 + 1, 1 << 56, math.MaxInt - 1, math.MaxInt}

// noOrders are numbers that are no block's order.
var noOrders = []int{math.MinInt, math.MinInt + 1, -1 << 32, -64, -2, -1, api.MaxOrder + 1, api.MaxOrder + 2, 63, 64, 65, 128, 1 << 32, 1<<32 + 1, math.MaxInt - 1, math.MaxInt}

// both are the ends to take from.
var both = []bool{false, true}

// many is how many frames a block of the order has.
func many(order int) int {
	n := 1
	for range order {
		n *= 2
	}
	return n
}

// blocks are those of which the numbers tell, by twos, the first frame and the order.
func blocks(numbers ...int) []api.Block {
	var all []api.Block
	for pair := range slices.Chunk(numbers, 2) {
		all = append(all, api.Block{At: pair[0], Order: pair[1]})
	}
	return all
}

// buddyOf is the buddy of a block: the two are halves of one that is twice as great.
func buddyOf(x api.Block) api.Block {
	if x.At/many(x.Order)%2 == 0 {
		return api.Block{At: x.At + many(x.Order), Order: x.Order}
	}
	return api.Block{At: x.At - many(x.Order), Order: x.Order}
}

// sorted are the blocks by rising numbers.
func sorted(blocks []api.Block) []api.Block {
	return slices.SortedFunc(slices.Values(blocks), func(a, b api.Block) int {
		return cmp.Or(cmp.Compare(a.At, b.At), cmp.Compare(a.Order, b.Order))
	})
}

// plain is a node whose blocks are lists that are gone over.
type plain struct {
	frames      int
	free, taken []api.Block
}

// newPlain is a plain node, all of it free.
func newPlain(frames int) *plain {
	p := &plain{frames: frames}
	for at := 0; at < frames; {
		order := api.MaxOrder
		for at%many(order) != 0 || at+many(order) > frames {
			order--
		}
		p.free = append(p.free, api.Block{At: at, Order: order})
		at += many(order)
	}
	return p
}

// without are the blocks but for x.
func without(blocks []api.Block, x api.Block) []api.Block {
	return slices.DeleteFunc(slices.Clone(blocks), func(y api.Block) bool { return x == y })
}

// source is which free block is taken from.
func (p *plain) source(order int, high bool) (api.Block, bool) {
	var best api.Block
	found := false
	for _, x := range sorted(p.free) {
		if x.Order < order {
			continue
		}
		if !found || x.Order < best.Order || x.Order == best.Order && high {
			best, found = x, true
		}
	}
	return best, found
}

// take is what Take is to answer, and to do.
func (p *plain) take(order int, high bool) (int, api.Errno) {
	if order < 0 || order > api.MaxOrder {
		return 0, api.ErrArg
	}
	x, ok := p.source(order, high)
	if !ok {
		return 0, api.ErrMemory
	}
	p.free = without(p.free, x)
	for x.Order > order {
		half := api.Block{At: x.At, Order: x.Order - 1}
		x = buddyOf(half)
		if !high {
			half, x = x, half
		}
		p.free = append(p.free, half)
	}
	p.taken = append(p.taken, x)
	return x.At, api.OK
}

// give is what Give is to answer, and to do.
func (p *plain) give(at, order int) api.Errno {
	x := api.Block{At: at, Order: order}
	if !slices.Contains(p.taken, x) {
		return api.ErrArg
	}
	p.taken = without(p.taken, x)
	for x.Order < api.MaxOrder && slices.Contains(p.free, buddyOf(x)) {
		p.free = without(p.free, buddyOf(x))
		x = api.Block{At: min(x.At, buddyOf(x).At), Order: x.Order + 1}
	}
	p.free = append(p.free, x)
	return api.OK
}

// copy is another plain node that is the same.
func (p *plain) copy() *plain {
	return &plain{frames: p.frames, free: slices.Clone(p.free), taken: slices.Clone(p.taken)}
}

// made is a node of so many frames.
func made(t *testing.T, frames int) *buddy.Buddy {
	t.Helper()
	b, e := buddy.New(frames)
	if b == nil || e != api.OK {
		t.Fatalf("New(%d): %v, error %d", frames, b, e)
	}
	return b
}

// wantTake holds what Take answers against what it is to answer.
func wantTake(t *testing.T, b *buddy.Buddy, order int, high bool, at int, err api.Errno) {
	t.Helper()
	if got, e := b.Take(order, high); got != at || e != err {
		t.Errorf("Take(%d, %t): %d, error %d; not %d, error %d", order, high, got, e, at, err)
	}
}

// wantGive holds what Give answers against the error that it is to tell.
func wantGive(t *testing.T, b *buddy.Buddy, at, order int, err api.Errno) {
	t.Helper()
	if e := b.Give(at, order); e != err {
		t.Errorf("Give(%d, %d): error %d, not %d", at, order, e, err)
	}
}

// wantTaken holds what Taken tells of at against what it is to tell; below 0: nothing.
func wantTaken(t *testing.T, what string, b *buddy.Buddy, at, order int) {
	t.Helper()
	ok := order >= 0
	if got, had := b.Taken(at); had != ok || got != max(order, 0) {
		t.Errorf("%s: Taken(%d): %d, %t; not %d, %t", what, at, got, had, max(order, 0), ok)
	}
}

// wantNode holds all that a node tells against what is to be free, and taken, of its frames.
func wantNode(t *testing.T, what string, b *buddy.Buddy, p *plain) {
	t.Helper()
	free, most := 0, -1
	for _, x := range p.free {
		free += many(x.Order)
		most = max(most, x.Order)
	}
	if b.Frames() != p.frames || b.Free() != free || b.Most() != most {
		t.Errorf("%s: %d frames, %d free, at most of the order %d; not %d, %d, %d", what, b.Frames(), b.Free(), b.Most(), p.frames, free, most)
	}
	blocks := slices.Collect(b.Blocks())
	if !slices.Equal(blocks, sorted(p.free)) {
		t.Errorf("%s: the free blocks %v, not %v", what, blocks, sorted(p.free))
	}
	orders := slices.Repeat([]int{-1}, p.frames+2)
	for _, x := range p.taken {
		orders[x.At] = x.Order
	}
	for at, order := range orders {
		wantTaken(t, what, b, at, order)
	}
	for _, at := range far {
		wantTaken(t, what, b, at, -1)
	}
	wantApart(t, what, b)
}

// wantApart holds a node against what is so of each: each frame is in one block, and no two free ones ought to be one.
func wantApart(t *testing.T, what string, b *buddy.Buddy) {
	t.Helper()
	in := make([]int, b.Frames())
	count := func(x api.Block) {
		if x.Order < 0 || x.Order > api.MaxOrder || x.At < 0 || x.At%many(x.Order) != 0 || x.At+many(x.Order) > len(in) {
			t.Fatalf("%s: %v is no block", what, x)
		}
		for i := range many(x.Order) {
			in[x.At+i]++
		}
	}
	free := map[api.Block]bool{}
	for x := range b.Blocks() {
		count(x)
		free[x] = true
		if free[buddyOf(x)] {
			t.Errorf("%s: %v and its buddy are free, apart", what, x)
		}
	}
	for at := range in {
		if order, ok := b.Taken(at); ok {
			count(api.Block{At: at, Order: order})
		}
	}
	for at, n := range in {
		if n != 1 {
			t.Errorf("%s: the frame %d is in %d blocks", what, at, n)
		}
	}
}

// wantFree holds a node's free blocks against those that are to be free.
func wantFree(t *testing.T, what string, b *buddy.Buddy, blocks []api.Block) {
	t.Helper()
	if got := slices.Collect(b.Blocks()); !slices.Equal(got, blocks) {
		t.Errorf("%s: the free blocks %v, not %v", what, got, blocks)
	}
	wantApart(t, what, b)
}

// full is a node whose frames were all taken one by one.
func full(t *testing.T, frames int) *buddy.Buddy {
	t.Helper()
	b := made(t, frames)
	seen := make([]bool, frames)
	for range frames {
		at, e := b.Take(0, false)
		if e != api.OK || seen[at] {
			t.Fatalf("Take(0, false): %d, error %d", at, e)
		}
		seen[at] = true
	}
	return b
}

// freed is a node of so many frames of which these alone were given back.
func freed(t *testing.T, frames int, ats ...int) *buddy.Buddy {
	t.Helper()
	b := full(t, frames)
	for _, at := range ats {
		wantGive(t, b, at, 0, api.OK)
	}
	return b
}

func TestP6_1NewWrong(t *testing.T) {
	for _, frames := range append([]int{0, -3, -128, 130, 255, 1 << 20}, far...) {
		if b, e := buddy.New(frames); b != nil || e != api.ErrArg {
			t.Errorf("New(%d): %v, error %d", frames, b, e)
		}
	}
}

func TestP6_1New(t *testing.T) {
	for frames := 1; frames <= api.MaxFrames; frames++ {
		wantNode(t, "New("+strconv.Itoa(frames)+")", made(t, frames), newPlain(frames))
	}
}

// At first the greatest blocks stand in front.
func TestP6_1NewBlocks(t *testing.T) {
	for _, x := range []struct {
		frames, most int
		free         []api.Block
	}{
		{1, 0, blocks(0, 0)},
		{2, 1, blocks(0, 1)},
		{3, 1, blocks(0, 1, 2, 0)},
		{4, 2, blocks(0, 2)},
		{5, 2, blocks(0, 2, 4, 0)},
		{6, 2, blocks(0, 2, 4, 1)},
		{7, 2, blocks(0, 2, 4, 1, 6, 0)},
		{8, 3, blocks(0, 3)},
		{12, 3, blocks(0, 3, 8, 2)},
		{63, 5, blocks(0, 5, 32, 4, 48, 3, 56, 2, 60, 1, 62, 0)},
		{64, 6, blocks(0, 6)},
		{65, 6, blocks(0, 6, 64, 0)},
		{100, 6, blocks(0, 6, 64, 5, 96, 2)},
		{127, 6, blocks(0, 6, 64, 5, 96, 4, 112, 3, 120, 2, 124, 1, 126, 0)},
		{128, 7, blocks(0, 7)},
	} {
		b, what := made(t, x.frames), "New("+strconv.Itoa(x.frames)+")"
		wantFree(t, what, b, x.free)
		if b.Frames() != x.frames || b.Free() != x.frames || b.Most() != x.most {
			t.Errorf("%s: %d frames, %d free, at most %d", what, b.Frames(), b.Free(), b.Most())
		}
	}
}

func TestP6_1TwoNodes(t *testing.T) {
	a, b := made(t, 8), made(t, 8)
	wantTake(t, a, 1, false, 0, api.OK)
	wantNode(t, "another node", b, newPlain(8))
	wantGive(t, b, 0, 1, api.ErrArg)
	wantTaken(t, "a node", a, 0, 1)
}

func TestP6_1InBetween(t *testing.T) {
	b := made(t, 12)
	for i, x := range []struct{ take, at, order, free, most int }{
		{1, 8, 0, 11, 3},
		{1, 9, 0, 10, 3},
		{1, 10, 1, 8, 3},
		{1, 0, 1, 6, 2},
		{1, 4, 2, 2, 1},
		{0, 9, 0, 3, 1},
		{1, 9, 0, 2, 1},
		{1, 2, 1, 0, -1},
		{0, 8, 0, 1, 0},
		{0, 4, 2, 5, 2},
		{0, 10, 1, 7, 2},
		{0, 9, 0, 8, 2},
		{0, 2, 1, 10, 2},
		{0, 0, 1, 12, 3},
	} {
		if x.take == 1 {
			wantTake(t, b, x.order, false, x.at, api.OK)
		} else {
			wantGive(t, b, x.at, x.order, api.OK)
		}
		if b.Frames() != 12 || b.Free() != x.free || b.Most() != x.most {
			t.Errorf("step %d: %d frames, %d free, at most %d; not 12, %d, %d", i, b.Frames(), b.Free(), b.Most(), x.free, x.most)
		}
	}
	wantNode(t, "all given back", b, newPlain(12))
}

func TestP6_2Examples(t *testing.T) {
	b := made(t, 8)
	wantTake(t, b, 0, false, 0, api.OK)
	wantTake(t, b, 0, true, 1, api.OK)
	wantTake(t, b, 2, false, 4, api.OK)
	for _, x := range blocks(0, 0, 1, 0, 4, 2) {
		wantGive(t, b, x.At, x.Order, api.OK)
	}
	wantNode(t, "the examples", b, newPlain(8))
	if b.Most() != 3 {
		t.Errorf("Most: %d", b.Most())
	}
}

// Each order is taken from each node that is all free, from both ends, and given back.
func TestP6_2TakeOfEachOrder(t *testing.T) {
	for frames := 1; frames <= api.MaxFrames; frames++ {
		for order := range api.MaxOrder + 1 {
			for _, high := range both {
				b, p := made(t, frames), newPlain(frames)
				at, err := p.take(order, high)
				wantTake(t, b, order, high, at, err)
				wantNode(t, "Take", b, p)
				if err == api.OK {
					wantGive(t, b, at, order, api.OK)
				}
				wantNode(t, "Give", b, newPlain(frames))
			}
		}
		if t.Failed() {
			t.Fatalf("a node of %d frames", frames)
		}
	}
}

func TestP6_2TakeOfGreatOrders(t *testing.T) {
	b := made(t, api.MaxFrames)
	for _, high := range both {
		for order := 8; order <= api.MaxOrder; order++ {
			wantTake(t, b, order, high, 0, api.ErrMemory)
		}
		wantTake(t, b, 7, high, 0, api.OK)
		wantTake(t, b, 7, high, 0, api.ErrMemory)
		wantTake(t, b, 0, high, 0, api.ErrMemory)
		wantGive(t, b, 0, 7, api.OK)
	}
	wantNode(t, "all given back", b, newPlain(api.MaxFrames))
}

// That there is no such order is told whether or not there is a free block.
func TestP6_2TakeOfNoOrder(t *testing.T) {
	for _, frames := range []int{1, 6, 127, 128} {
		empty, b := full(t, frames), made(t, frames)
		for _, order := range noOrders {
			for _, high := range both {
				wantTake(t, b, order, high, 0, api.ErrArg)
				wantTake(t, empty, order, high, 0, api.ErrArg)
			}
		}
		wantNode(t, "Take of no order", b, newPlain(frames))
		if empty.Free() != 0 || empty.Most() != -1 {
			t.Errorf("%d free, at most %d, of a node all of which is taken", empty.Free(), empty.Most())
		}
	}
}

// Of all that is great enough a block of the least order is taken, wherever it lies.
func TestP6_2TakeOfTheLeastOrder(t *testing.T) {
	for _, high := range both {
		b := made(t, 15) // 0 to 7, 8 to 11, 12 and 13, 14
		wantTake(t, b, 1, high, 12, api.OK)
		wantTake(t, b, 2, high, 8, api.OK)
		wantTake(t, b, 0, high, 14, api.OK)
		wantTake(t, b, 3, high, 0, api.OK)
		wantTake(t, b, 0, high, 0, api.ErrMemory)
		wantFree(t, "all taken", b, nil)
	}
	b := freed(t, 16, 0, 1, 2, 3, 6, 7, 9) // of the orders 2, 1, 0
	wantTake(t, b, 1, false, 6, api.OK)
	wantTake(t, b, 0, false, 9, api.OK)
	wantTake(t, b, 1, false, 0, api.OK)
	b = freed(t, 16, 6, 8, 9, 12, 13, 14, 15)
	wantTake(t, b, 1, true, 8, api.OK)
	wantTake(t, b, 0, true, 6, api.OK)
	wantTake(t, b, 1, true, 14, api.OK)
}

// Of several free blocks of the least order the first one is low, the last one high.
func TestP6_2TakeOfSeveral(t *testing.T) {
	single := []int{2, 5, 11, 15, 31, 64, 99, 127}
	b := freed(t, 128, single...)
	for _, at := range single {
		wantTake(t, b, 0, false, at, api.OK)
	}
	wantTake(t, b, 0, false, 0, api.ErrMemory)
	b = freed(t, 128, single...)
	for _, at := range slices.Backward(single) {
		wantTake(t, b, 0, true, at, api.OK)
	}
	wantTake(t, b, 0, true, 0, api.ErrMemory)
	b = freed(t, 128, 2, 3, 10, 11, 126, 127, 50)
	wantTake(t, b, 1, true, 126, api.OK)
	wantTake(t, b, 1, false, 2, api.OK)
	wantFree(t, "two are taken", b, blocks(10, 1, 50, 0))
	wantTake(t, b, 0, true, 50, api.OK)
	wantTake(t, b, 0, true, 11, api.OK)
	wantTake(t, b, 0, true, 10, api.OK)
}

// There is free memory, but no block that is great enough.
func TestP6_2TakeInPieces(t *testing.T) {
	b := freed(t, 16, 1, 2, 5, 6, 9, 10, 13, 14)
	for order := 1; order <= api.MaxOrder; order++ {
		for _, high := range both {
			wantTake(t, b, order, high, 0, api.ErrMemory)
		}
	}
	if b.Free() != 8 || b.Most() != 0 {
		t.Errorf("%d free, at most %d", b.Free(), b.Most())
	}
	b = made(t, 7)
	for _, high := range both {
		wantTake(t, b, 3, high, 0, api.ErrMemory)
	}
	wantNode(t, "Take of more than there is", b, newPlain(7))
}

// A block is cut over several orders; the halves that are not gone on with are free.
func TestP6_2TakeCuts(t *testing.T) {
	for _, x := range []struct {
		frames, order int
		high          bool
		at            int
		free          []api.Block
	}{
		{32, 0, false, 0, blocks(1, 0, 2, 1, 4, 2, 8, 3, 16, 4)},
		{32, 0, true, 31, blocks(0, 4, 16, 3, 24, 2, 28, 1, 30, 0)},
		{32, 2, false, 0, blocks(4, 2, 8, 3, 16, 4)},
		{32, 2, true, 28, blocks(0, 4, 16, 3, 24, 2)},
		{32, 4, false, 0, blocks(16, 4)},
		{32, 4, true, 16, blocks(0, 4)},
		{32, 5, false, 0, nil},
		{32, 5, true, 0, nil},
		{12, 0, false, 8, blocks(0, 3, 9, 0, 10, 1)},
		{12, 0, true, 11, blocks(0, 3, 8, 1, 10, 0)},
		{12, 3, false, 0, blocks(8, 2)},
		{12, 3, true, 0, blocks(8, 2)},
		{13, 1, false, 8, blocks(0, 3, 10, 1, 12, 0)},
		{13, 1, true, 10, blocks(0, 3, 8, 1, 12, 0)},
		{128, 0, false, 0, blocks(1, 0, 2, 1, 4, 2, 8, 3, 16, 4, 32, 5, 64, 6)},
		{128, 0, true, 127, blocks(0, 6, 64, 5, 96, 4, 112, 3, 120, 2, 124, 1, 126, 0)},
	} {
		b := made(t, x.frames)
		wantTake(t, b, x.order, x.high, x.at, api.OK)
		wantFree(t, "Take of "+strconv.Itoa(x.frames), b, x.free)
		wantTaken(t, "Take", b, x.at, x.order)
	}
}

// A block amid others is cut from both ends in turn.
func TestP6_2TakeCutsFromBothEnds(t *testing.T) {
	b := made(t, 128)
	wantTake(t, b, 5, false, 0, api.OK)
	wantTake(t, b, 6, true, 64, api.OK) // 32 to 63 are left
	wantTake(t, b, 1, false, 32, api.OK)
	wantTake(t, b, 3, true, 40, api.OK)
	wantTake(t, b, 3, true, 56, api.OK)
	wantFree(t, "cut", b, blocks(34, 1, 36, 2, 48, 3))
	wantTake(t, b, 0, true, 35, api.OK)
	wantTake(t, b, 0, false, 34, api.OK)
	wantTake(t, b, 0, true, 39, api.OK)
	wantTake(t, b, 2, false, 48, api.OK)
	wantFree(t, "cut", b, blocks(36, 1, 38, 0, 52, 2))
}

// wantAllRefused gives back what is none of the node's taken blocks: each place with each other order.
func wantAllRefused(t *testing.T, what string, b *buddy.Buddy, p *plain) {
	t.Helper()
	for at := -1; at <= p.frames+1; at++ {
		for order := range api.MaxOrder + 1 {
			if !slices.Contains(p.taken, api.Block{At: at, Order: order}) {
				wantGive(t, b, at, order, api.ErrArg)
			}
		}
		for _, order := range noOrders {
			wantGive(t, b, at, order, api.ErrArg)
		}
	}
	for _, at := range far {
		for _, order := range append([]int{0, 1, 7, 10}, noOrders...) {
			wantGive(t, b, at, order, api.ErrArg)
		}
	}
	wantNode(t, what, b, p)
}

func TestP6_2GiveOfWhatWasNotTaken(t *testing.T) {
	for _, frames := range []int{1, 2, 7, 12, 100, 127, 128} {
		b, p := made(t, frames), newPlain(frames)
		wantAllRefused(t, "Give to a node that is free", b, p)
		for _, x := range []struct {
			order int
			high  bool
		}{{0, false}, {0, true}, {1, true}, {2, false}, {0, true}, {3, true}} {
			at, err := p.take(x.order, x.high)
			wantTake(t, b, x.order, x.high, at, err)
			wantAllRefused(t, "Give of what was not taken", b, p)
		}
		for len(p.taken) > 0 {
			x := p.taken[0]
			wantGive(t, b, x.At, x.Order, p.give(x.At, x.Order))
			wantGive(t, b, x.At, x.Order, api.ErrArg)
			wantAllRefused(t, "Give of what was given back", b, p)
		}
	}
}

// The place is right, but not the order: nothing is given back.
func TestP6_2GiveOfAnotherOrder(t *testing.T) {
	b := made(t, 8)
	wantTake(t, b, 1, false, 0, api.OK)
	for _, order := range append([]int{0, 2, 3, 4, 10}, noOrders...) {
		wantGive(t, b, 0, order, api.ErrArg)
	}
	wantGive(t, b, 1, 0, api.ErrArg)
	wantGive(t, b, 1, 1, api.ErrArg)
	wantTaken(t, "Give of another order", b, 0, 1)
	wantGive(t, b, 0, 1, api.OK)
	wantGive(t, b, 0, 1, api.ErrArg)
	wantNode(t, "given back", b, newPlain(8))
}

// What was given back may be taken anew, and given back anew, with another order.
func TestP6_2GiveOfWhatWasTakenAnew(t *testing.T) {
	b := made(t, 8)
	for order := range 4 {
		wantTake(t, b, order, false, 0, api.OK)
		for other := range 4 {
			if other != order {
				wantGive(t, b, 0, other, api.ErrArg)
			}
		}
		wantGive(t, b, 0, order, api.OK)
		wantNode(t, "given back", b, newPlain(8))
	}
}

// The last block to be given back goes together with its buddies over all orders.
func TestP6_2GiveOverSeveralOrders(t *testing.T) {
	for _, frames := range []int{2, 4, 8, 64, 128} {
		for at := range frames {
			b := full(t, frames)
			for other := range frames {
				if other != at {
					wantGive(t, b, other, 0, api.OK)
				}
			}
			if b.Free() != frames-1 || b.Most() >= newPlain(frames).free[0].Order {
				t.Errorf("%d free, at most %d, without %d of %d", b.Free(), b.Most(), at, frames)
			}
			wantGive(t, b, at, 0, api.OK)
			wantNode(t, "all given back", b, newPlain(frames))
		}
	}
	b := freed(t, 16, 0, 1, 2, 8, 9, 10, 11, 12)
	wantFree(t, "some given back", b, blocks(0, 1, 2, 0, 8, 2, 12, 0))
	wantGive(t, b, 3, 0, api.OK)
	wantFree(t, "two orders further", b, blocks(0, 2, 8, 2, 12, 0))
}

// Its buddy is taken: a block stays by itself, whatever is free on its other side.
func TestP6_2GiveBesideATakenBuddy(t *testing.T) {
	b := freed(t, 8, 1, 2)
	wantFree(t, "1 and 2 are no buddies", b, blocks(1, 0, 2, 0))
	wantGive(t, b, 5, 0, api.OK)
	wantGive(t, b, 6, 0, api.OK)
	wantFree(t, "5 and 6 are no buddies", b, blocks(1, 0, 2, 0, 5, 0, 6, 0))
	b = made(t, 16)
	for at := 0; at < 16; at += 4 {
		wantTake(t, b, 2, false, at, api.OK)
	}
	wantGive(t, b, 4, 2, api.OK)
	wantGive(t, b, 8, 2, api.OK)
	wantFree(t, "4 and 8 are no buddies", b, blocks(4, 2, 8, 2))
}

// Its buddy is cut, and not all of it free, though its first part is: a block stays by itself.
func TestP6_2GiveBesideACutBuddy(t *testing.T) {
	b := made(t, 8)
	wantTake(t, b, 2, false, 0, api.OK)
	wantTake(t, b, 0, true, 7, api.OK) // of 4 to 7
	wantGive(t, b, 0, 2, api.OK)
	wantFree(t, "a cut buddy", b, blocks(0, 2, 4, 1, 6, 0))
	wantGive(t, b, 7, 0, api.OK)
	wantFree(t, "together", b, blocks(0, 3))
	wantTake(t, b, 2, true, 4, api.OK)
	wantTake(t, b, 0, false, 0, api.OK)
	wantTake(t, b, 1, false, 2, api.OK) // 1 is free
	wantGive(t, b, 4, 2, api.OK)
	wantFree(t, "a cut buddy", b, blocks(1, 0, 4, 2))
	wantGive(t, b, 0, 0, api.OK)
	wantFree(t, "half of a cut buddy", b, blocks(0, 1, 4, 2))
	wantGive(t, b, 2, 1, api.OK)
	wantFree(t, "together", b, blocks(0, 3))
}

// Its buddy would end outside the node: a block stays by itself.
func TestP6_2GiveBesideTheEnd(t *testing.T) {
	for _, x := range []struct {
		frames int
		free   []api.Block
	}{
		{1, blocks(0, 0)},
		{3, blocks(0, 1, 2, 0)},
		{6, blocks(0, 2, 4, 1)},
		{7, blocks(0, 2, 4, 1, 6, 0)},
		{12, blocks(0, 3, 8, 2)},
		{127, blocks(0, 6, 64, 5, 96, 4, 112, 3, 120, 2, 124, 1, 126, 0)},
	} {
		b := made(t, x.frames)
		for _, y := range x.free {
			wantTake(t, b, y.Order, false, y.At, api.OK)
		}
		wantFree(t, "all taken", b, nil)
		for i, y := range x.free {
			wantGive(t, b, y.At, y.Order, api.OK)
			wantFree(t, "given back", b, x.free[:i+1])
		}
		all := freed(t, x.frames)
		for at := range x.frames {
			wantGive(t, all, at, 0, api.OK)
		}
		wantFree(t, "given back one by one", all, x.free)
	}
}

func TestP6_2Taken(t *testing.T) {
	b := made(t, 16)
	wantTake(t, b, 2, false, 0, api.OK)
	wantTake(t, b, 0, true, 7, api.OK)
	wantTake(t, b, 3, true, 8, api.OK)
	orders := []int{2, -1, -1, -1, -1, -1, -1, 0, 3, -1, -1, -1, -1, -1, -1, -1, -1, -1}
	for range 2 { // it only looks
		for at, order := range orders {
			wantTaken(t, "Taken", b, at, order)
		}
		for _, at := range far {
			wantTaken(t, "Taken", b, at, -1)
		}
	}
	wantGive(t, b, 0, 2, api.OK)
	wantTaken(t, "given back", b, 0, -1)
	wantTake(t, b, 1, false, 4, api.OK)
	wantTaken(t, "taken", b, 4, 1)
	wantTaken(t, "amid a taken one", b, 5, -1)
}

// pieces takes blocks of orders in turn, from both ends, till there is no frame.
func pieces(t *testing.T, b *buddy.Buddy) []api.Block {
	t.Helper()
	var taken []api.Block
	for i := 0; b.Free() > 0; i++ {
		order := []int{0, 2, 1, 0, 3, 1}[i%6]
		if order > b.Most() {
			order = b.Most()
		}
		at, e := b.Take(order, i%3 == 1)
		if e != api.OK {
			t.Fatalf("Take(%d): error %d, at most %d", order, e, b.Most())
		}
		taken = append(taken, api.Block{At: at, Order: order})
	}
	return taken
}

// orders are some ways to go over so many.
func orders(n int) [][]int {
	up := make([]int, n)
	for i := range up {
		up[i] = i
	}
	down := slices.Clone(up)
	slices.Reverse(down)
	evens, odds, mixed := []int(nil), []int(nil), slices.Clone(up)
	x := uint64(n)
	for i := range n {
		if i%2 == 0 {
			evens = append(evens, i)
		} else {
			odds = append(odds, i)
		}
		x = x*6364136223846793005 + 1442695040888963407
		k := int(x >> 33 % uint64(n))
		mixed[i], mixed[k] = mixed[k], mixed[i]
	}
	return [][]int{up, down, slices.Concat(evens, odds), slices.Concat(odds, evens), mixed}
}

func TestP6_4AllGivenBack(t *testing.T) {
	for _, frames := range []int{1, 2, 3, 4, 5, 6, 7, 8, 11, 16, 31, 63, 64, 65, 100, 127, 128} {
		for which := range 5 {
			b := made(t, frames)
			taken := pieces(t, b)
			wantNode(t, "all taken", b, &plain{frames: frames, taken: taken})
			for _, i := range orders(len(taken))[which] {
				wantGive(t, b, taken[i].At, taken[i].Order, api.OK)
				wantApart(t, "given back", b)
			}
			wantNode(t, "all given back", b, newPlain(frames))
			if t.Failed() {
				t.Fatalf("a node of %d frames", frames)
			}
		}
	}
}

// Many takes and gives, one behind the other, of what there is and of what there is not.
func TestP6_4InARow(t *testing.T) {
	for _, frames := range []int{1, 2, 7, 12, 33, 64, 100, 127, 128} {
		b, p := made(t, frames), newPlain(frames)
		x := uint64(frames)
		for range 800 {
			x = x*6364136223846793005 + 1442695040888963407
			order, pick, high := int(x>>33%6)-1, int(x>>40%1000), x>>60%2 == 0
			switch k := x >> 50 % 8; {
			case k < 4:
				at, err := p.take(order, high)
				wantTake(t, b, order, high, at, err)
			case k < 7 && len(p.taken) > 0:
				y := p.taken[pick%len(p.taken)]
				wantGive(t, b, y.At, y.Order, p.give(y.At, y.Order))
			default:
				at := pick%(frames+2) - 1
				wantGive(t, b, at, order, p.give(at, order))
			}
			wantNode(t, "in a row", b, p)
			if t.Failed() {
				t.Fatalf("a node of %d frames", frames)
			}
		}
		for len(p.taken) > 0 {
			y := p.taken[0]
			wantGive(t, b, y.At, y.Order, p.give(y.At, y.Order))
		}
		wantNode(t, "all given back", b, newPlain(frames))
	}
}

func TestP6_3BlocksBrokenOff(t *testing.T) {
	b := freed(t, 16, 0, 2, 3, 8, 9, 10, 11, 13)
	all := blocks(0, 0, 2, 1, 8, 2, 13, 0)
	seq := b.Blocks()
	for many := range all {
		var told []api.Block
		for x := range seq {
			told = append(told, x)
			if len(told) == many+1 {
				break
			}
		}
		if !slices.Equal(told, all[:many+1]) {
			t.Errorf("broken off behind %d: %v", many+1, told)
		}
		calls := 0
		seq(func(api.Block) bool { calls++; return calls <= many })
		if calls != many+1 {
			t.Errorf("told %d, though broken off behind %d", calls, many+1)
		}
	}
	wantFree(t, "broken off before", b, all)
}

// One answer of Blocks tells each time what is then.
func TestP6_3BlocksToldAgain(t *testing.T) {
	b := made(t, 8)
	seq := b.Blocks()
	want := func(what string, blocks []api.Block) {
		t.Helper()
		for range 2 {
			if got := slices.Collect(seq); !slices.Equal(got, blocks) {
				t.Errorf("%s: %v, not %v", what, got, blocks)
			}
		}
	}
	want("at first", blocks(0, 3))
	wantTake(t, b, 1, true, 6, api.OK)
	want("behind Take", blocks(0, 2, 4, 1))
	wantTake(t, b, 2, false, 0, api.OK)
	want("behind Take", blocks(4, 1))
	wantTake(t, b, 1, false, 4, api.OK)
	want("all taken", nil)
	wantGive(t, b, 0, 2, api.OK)
	want("behind Give", blocks(0, 2))
	wantGive(t, b, 6, 1, api.OK)
	wantGive(t, b, 4, 1, api.OK)
	want("all given back", blocks(0, 3))
}

// What is taken or given back while blocks are told is seen in those that are told then.
func TestP6_3BlocksAsTheyAre(t *testing.T) {
	b := freed(t, 16, 0, 2, 4, 8, 9)
	var told []api.Block
	for x := range b.Blocks() {
		told = append(told, x)
		switch x.At {
		case 0:
			wantTake(t, b, 0, false, 0, api.OK)
			wantTake(t, b, 0, false, 2, api.OK)
		case 4:
			wantGive(t, b, 10, 0, api.OK)
			wantGive(t, b, 11, 0, api.OK)
		case 8:
			wantGive(t, b, 0, 0, api.OK) // behind it, so not told any more
			wantGive(t, b, 15, 0, api.OK)
		}
	}
	if want := blocks(0, 0, 4, 0, 8, 2, 15, 0); !slices.Equal(told, want) {
		t.Errorf("told %v, not %v", told, want)
	}
	wantFree(t, "behind it", b, blocks(0, 0, 4, 0, 8, 2, 15, 0))
}

// What is left of a block that is cut once it was told is told, too: its numbers are greater.
func TestP6_3BlocksCutWhileTold(t *testing.T) {
	b := made(t, 8)
	var told []api.Block
	for x := range b.Blocks() {
		told = append(told, x)
		if x.Order == 3 {
			wantTake(t, b, 0, false, 0, api.OK)
		}
	}
	if want := blocks(0, 3, 1, 0, 2, 1, 4, 2); !slices.Equal(told, want) {
		t.Errorf("told %v, not %v", told, want)
	}
	told = nil
	for x := range b.Blocks() {
		told = append(told, x)
		if x.At == 4 { // all of it together once more: it begins in front
			wantGive(t, b, 0, 0, api.OK)
		}
	}
	if want := blocks(1, 0, 2, 1, 4, 2); !slices.Equal(told, want) {
		t.Errorf("told %v, not %v", told, want)
	}
	wantNode(t, "given back", b, newPlain(8))
}

func TestP6_3Copy(t *testing.T) {
	for _, frames := range []int{1, 3, 8, 100, 127, 128} {
		b, p := made(t, frames), newPlain(frames)
		wantNode(t, "Copy of a node that is free", b.Copy(), p)
		for range 3 {
			at, err := p.take(0, true)
			wantTake(t, b, 0, true, at, err)
			c := b.Copy()
			wantNode(t, "Copy", c, p)
			wantNode(t, "what was copied", b, p)
			wantAllRefused(t, "Copy", c, p)
		}
	}
}

func TestP6_3CopyGoesItsOwnWay(t *testing.T) {
	b, p := made(t, 12), newPlain(12)
	for _, order := range []int{0, 1, 2} {
		at, err := p.take(order, false)
		wantTake(t, b, order, false, at, err)
	}
	c, q := b.Copy(), p.copy()
	seq := c.Blocks()
	wantTake(t, c, 0, true, 9, api.OK)
	q.take(0, true)
	wantGive(t, c, 0, 2, q.give(0, 2))
	wantNode(t, "what the copy did", b, p)
	wantNode(t, "the copy", c, q)
	wantGive(t, b, 8, 0, p.give(8, 0))
	wantGive(t, b, 10, 1, p.give(10, 1))
	wantTake(t, b, 2, true, 8, api.OK)
	p.take(2, true)
	wantNode(t, "what was copied", b, p)
	wantNode(t, "what that did", c, q)
	d, r := c.Copy(), q.copy()
	for len(q.taken) > 0 {
		x := q.taken[0]
		wantGive(t, c, x.At, x.Order, q.give(x.At, x.Order))
	}
	wantNode(t, "a copy's copy", d, r)
	wantNode(t, "a copy that was copied", c, newPlain(12))
	if got := slices.Collect(seq); !slices.Equal(got, sorted(q.free)) {
		t.Errorf("a copy's Blocks: %v, not %v", got, q.free)
	}
}

// wantNothing holds what a node that is not there tells against what it is to tell.
func wantNothing(t *testing.T, b *buddy.Buddy) {
	t.Helper()
	if b.Frames() != 0 || b.Free() != 0 || b.Most() != -1 {
		t.Errorf("%d frames, %d free, at most %d", b.Frames(), b.Free(), b.Most())
	}
	if c := b.Copy(); c != nil {
		t.Errorf("Copy: %v", c)
	}
	seq := b.Blocks()
	if seq == nil {
		t.Fatal("Blocks: no function")
	}
	for x := range seq {
		t.Errorf("Blocks: %v", x)
	}
	for _, at := range append([]int{0, 1, 127, 128}, far...) {
		wantTaken(t, "a node that is not there", b, at, -1)
	}
}

func TestP6_NotThere(t *testing.T) {
	for _, b := range []*buddy.Buddy{nil, {}, new(buddy.Buddy)} {
		for range 2 {
			wantNothing(t, b)
			for _, order := range append([]int{0, 1, 7, 8, 10}, noOrders...) {
				for _, high := range both {
					wantTake(t, b, order, high, 0, api.ErrNil)
				}
				for _, at := range append([]int{0, 1, 127}, far...) {
					wantGive(t, b, at, order, api.ErrNil)
				}
			}
		}
	}
}
