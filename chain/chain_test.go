package chain_test

import (
	"bytes"
	"math"
	"slices"
	"testing"

	"byre/api"
	"byre/chain"
)

// far are numbers that are no object's, and no size, and no colour.
var far = []int{math.MinInt, math.MinInt + 1, math.MinInt + 8, -1 << 56, -1 << 32, -256, -128, -24, -16, -9, -8, -2, -1, 255, 256, 257, 264, 1 << 16, 1 << 32, 1<<32 + 8, 1 << 56, 1<<61 + 1, math.MaxInt - 7, math.MaxInt - 1, math.MaxInt}

// turns are some that may be.
var turns = []uint64{1, 2, 255, 256, 1 << 32, api.MaxTurn, 1 << 63, math.MaxUint64 - 1, math.MaxUint64}

// cut says of a size how many objects there are, and the greatest colour.
type cut struct{ size, count, colours int }

// cuts are all sizes that may be.
func cuts() []cut {
	return []cut{
		{8, 32, 0}, {16, 16, 0}, {24, 10, 16}, {32, 8, 0}, {40, 6, 16}, {48, 5, 16}, {56, 4, 32}, {64, 4, 0},
		{72, 3, 40}, {80, 3, 16}, {88, 2, 80}, {96, 2, 64}, {104, 2, 48}, {112, 2, 32}, {120, 2, 16}, {128, 2, 0},
	}
}

// plain is a slab as lists: the chain, what is out, and all bytes as they are to be.
type plain struct {
	size, colour, count int
	chain               []int
	out                 map[int]bool
	turns               map[int]uint64
	bytes               []byte
}

// newPlain is a plain slab of such bytes, all its objects free.
func newPlain(x cut, colour int, b []byte) *plain {
	p := &plain{size: x.size, colour: colour, count: x.count, out: map[int]bool{}, turns: map[int]uint64{}, bytes: slices.Clone(b)}
	for i := range p.count {
		p.chain = append(p.chain, i)
		p.bytes[colour+i*x.size] = byte(i + 1)
	}
	p.bytes[colour+(x.count-1)*x.size] = 255
	return p
}

// is tells whether there is such an object.
func (p *plain) is(i int) bool {
	return i >= 0 && i < p.count
}

// of are the object's bytes.
func (p *plain) of(i int) []byte {
	return p.bytes[p.colour+i*p.size:][:p.size]
}

// take is what Take is to answer, and to do.
func (p *plain) take() (int, api.Errno) {
	if len(p.chain) == 0 {
		return 0, api.ErrFull
	}
	i := p.chain[0]
	p.chain, p.out[i] = p.chain[1:], true
	for k := range p.size {
		p.of(i)[k] = 0
	}
	return i, api.OK
}

// give is what Give is to answer, and to do.
func (p *plain) give(i int) api.Errno {
	switch {
	case !p.is(i):
		return api.ErrArg
	case !p.out[i]:
		return api.ErrTwice
	case p.turns[i] != 0:
		return api.ErrBusy
	}
	p.of(i)[0] = 255
	if len(p.chain) > 0 {
		p.of(i)[0] = byte(p.chain[0])
	}
	p.chain, p.out[i] = append([]int{i}, p.chain...), false
	return api.OK
}

// mark is what Mark is to answer, and to do.
func (p *plain) mark(i int, turn uint64) api.Errno {
	switch {
	case !p.is(i) || turn == 0:
		return api.ErrArg
	case !p.out[i]:
		return api.ErrNone
	case p.turns[i] != 0:
		return api.ErrTwice
	}
	p.turns[i] = turn
	return api.OK
}

// clear is what Clear is to answer, and to do.
func (p *plain) clear(i int) api.Errno {
	switch {
	case !p.is(i):
		return api.ErrArg
	case p.turns[i] == 0:
		return api.ErrNone
	}
	p.turns[i] = 0
	return api.OK
}

// pattern are 256 bytes, none of them a nought, nor alike through all rounds.
func pattern(round int) []byte {
	b := make([]byte, api.FrameSize)
	for i := range b {
		b[i] = byte((i*i+7*i+101*round)%254 + 1)
	}
	return b
}

// both is a slab, the bytes that it was handed, and a plain one that is to be as it is.
type both struct {
	s *chain.Slab
	b []byte
	p *plain
}

// made is a new slab of bytes of that pattern.
func made(t *testing.T, x cut, colour, round int) both {
	t.Helper()
	b := pattern(round)
	s, e := chain.New(b, x.size, colour)
	if s == nil || e != api.OK {
		t.Fatalf("New of %d, %d: %v, error %d", x.size, colour, s, e)
	}
	return both{s, b, newPlain(x, colour, pattern(round))}
}

// each hands to ask a new slab of each size and colour.
func each(t *testing.T, ask func(x both)) {
	t.Helper()
	round := 0
	for _, x := range cuts() {
		for colour := 0; colour <= x.colours; colour += 8 {
			ask(made(t, x, colour, round))
			round++
			if t.Failed() {
				t.Fatalf("the size %d, the colour %d", x.size, colour)
			}
		}
	}
}

// none are numbers that are no object's.
func (x both) none() []int {
	return append([]int{x.p.count, x.p.count + 1, x.p.count + 32, 33, 64, 128}, far...)
}

// want holds all that a slab tells, and its bytes, against what they are to be.
func (x both) want(t *testing.T, what string) {
	t.Helper()
	if x.s.Count() != x.p.count || x.s.Size() != x.p.size || x.s.Colour() != x.p.colour {
		t.Errorf("%s: %d objects, the size %d, the colour %d; not %d, %d, %d", what, x.s.Count(), x.s.Size(), x.s.Colour(), x.p.count, x.p.size, x.p.colour)
	}
	if got := x.s.Free(); got != len(x.p.chain) {
		t.Errorf("%s: %d are free, not %d", what, got, len(x.p.chain))
	}
	if got := x.s.Chain(); !slices.Equal(got, x.p.chain) {
		t.Errorf("%s: the chain %v, not %v", what, got, x.p.chain)
	}
	for i := range x.p.count {
		from := x.p.colour + i*x.p.size
		x.wantAt(t, what, i, from, from+x.p.size)
		x.wantLive(t, what, i, x.p.turns[i])
	}
	for _, i := range x.none() {
		x.wantAt(t, what, i, 0, 0)
		x.wantLive(t, what, i, 0)
	}
	if !bytes.Equal(x.b, x.p.bytes) {
		t.Errorf("%s: the bytes\n%v, not\n%v", what, x.b, x.p.bytes)
	}
}

// wantAt holds where an object stands against where it is to stand.
func (x both) wantAt(t *testing.T, what string, i, from, to int) {
	t.Helper()
	if f, end := x.s.At(i); f != from || end != to {
		t.Errorf("%s: At(%d): %d, %d; not %d, %d", what, i, f, end, from, to)
	}
}

// wantLive holds what Live tells against the turn that it is to tell; 0: the object is not live.
func (x both) wantLive(t *testing.T, what string, i int, turn uint64) {
	t.Helper()
	if got, ok := x.s.Live(i); got != turn || ok != (turn != 0) {
		t.Errorf("%s: Live(%d): %d, %t; not %d", what, i, got, ok, turn)
	}
}

// take holds what Take answers against what it is to answer.
func (x both) take(t *testing.T) (int, api.Errno) {
	t.Helper()
	i, err := x.p.take()
	if got, e := x.s.Take(); got != i || e != err {
		t.Errorf("Take: %d, error %d; not %d, error %d", got, e, i, err)
	}
	return i, err
}

// takes takes so many.
func (x both) takes(t *testing.T, many int) {
	t.Helper()
	for range many {
		if _, e := x.take(t); e != api.OK {
			t.Fatalf("Take: error %d", e)
		}
	}
}

// give holds what Give answers against what it is to answer.
func (x both) give(t *testing.T, i int) api.Errno {
	t.Helper()
	err := x.p.give(i)
	wantErr(t, "Give", i, x.s.Give(i), err)
	return err
}

// mark holds what Mark answers against what it is to answer.
func (x both) mark(t *testing.T, i int, turn uint64) api.Errno {
	t.Helper()
	err := x.p.mark(i, turn)
	wantErr(t, "Mark", i, x.s.Mark(i, turn), err)
	return err
}

// clear holds what Clear answers against what it is to answer.
func (x both) clear(t *testing.T, i int) api.Errno {
	t.Helper()
	err := x.p.clear(i)
	wantErr(t, "Clear", i, x.s.Clear(i), err)
	return err
}

// write writes such bytes to an object that is out.
func (x both) write(i, round int) {
	from := x.p.colour + i*x.p.size
	copy(x.b[from:from+x.p.size], pattern(round))
	copy(x.p.of(i), pattern(round))
}

// wantErr holds what a call of an object answers against the error that it is to tell.
func wantErr(t *testing.T, what string, i int, got, want api.Errno) {
	t.Helper()
	if got != want {
		t.Errorf("%s(%d): error %d, not %d", what, i, got, want)
	}
}

// wantNoSlab holds New against its refusal; the bytes must stay as they were.
func wantNoSlab(t *testing.T, b []byte, size, colour int) {
	t.Helper()
	before := slices.Clone(b)
	if s, e := chain.New(b, size, colour); s != nil || e != api.ErrArg {
		t.Errorf("New of %d bytes, %d, %d: %v, error %d", len(b), size, colour, s, e)
	}
	if !bytes.Equal(b, before) {
		t.Errorf("New of %d, %d: what was refused is written to", size, colour)
	}
}

func TestP8_1New(t *testing.T) {
	each(t, func(x both) { x.want(t, "New") })
}

// A frame of noughts is as good as another one.
func TestP8_1NewOfNoughts(t *testing.T) {
	b := make([]byte, api.FrameSize)
	s, e := chain.New(b, 56, 8)
	if s == nil || e != api.OK {
		t.Fatalf("New: %v, error %d", s, e)
	}
	want := make([]byte, api.FrameSize)
	want[8], want[64], want[120], want[176] = 1, 2, 3, 255
	if !bytes.Equal(b, want) {
		t.Errorf("New: the bytes %v", b)
	}
}

func TestP8_1NewOfOtherLengths(t *testing.T) {
	for _, x := range cuts() {
		wantNoSlab(t, nil, x.size, 0)
		for _, many := range []int{0, 1, x.size, 128, 240, 254, 255, 257, 258, 512, 1 << 16} {
			wantNoSlab(t, bytes.Repeat([]byte{7}, many), x.size, 0)
			wantNoSlab(t, bytes.Repeat([]byte{7}, 1<<17)[:many], x.size, 0) // room behind them does not count
		}
	}
	wantNoSlab(t, nil, 0, 0)
	wantNoSlab(t, pattern(0)[:255], 12, -8)
}

func TestP8_1NewOfWrongSizes(t *testing.T) {
	good := map[int]bool{}
	for _, x := range cuts() {
		good[x.size] = true
	}
	if len(good) != 16 {
		t.Fatalf("%d sizes", len(good))
	}
	for size := -300; size <= 600; size++ {
		if !good[size] {
			for _, colour := range []int{0, 8, -8, 1} {
				wantNoSlab(t, pattern(size+300), size, colour)
			}
		}
	}
	for _, size := range append([]int{0, 4, 12, 132, 136}, far...) {
		wantNoSlab(t, pattern(1), size, 0)
	}
}

func TestP8_1NewOfWrongColours(t *testing.T) {
	for _, x := range cuts() {
		for colour := -300; colour <= 600; colour++ {
			if colour < 0 || colour > x.colours || colour%8 != 0 {
				wantNoSlab(t, pattern(x.size), x.size, colour)
			}
		}
		for _, colour := range append([]int{x.colours + 8, x.colours + 1, x.colours - 4, x.size, 256 - x.size}, far...) {
			if colour < 0 || colour > x.colours || colour%8 != 0 {
				wantNoSlab(t, pattern(x.size), x.size, colour)
			}
		}
	}
}

// The slab works on the bytes that it was handed, and on none beside them.
func TestP8_1TheseVeryBytes(t *testing.T) {
	row := slices.Concat(pattern(1), pattern(2), pattern(3))
	b := row[api.FrameSize : 2*api.FrameSize]
	s, e := chain.New(b, 40, 16)
	if s == nil || e != api.OK {
		t.Fatalf("New: %v, error %d", s, e)
	}
	x := both{s, row[api.FrameSize : 2*api.FrameSize], newPlain(cut{40, 6, 16}, 16, pattern(2))}
	x.want(t, "New")
	x.takes(t, 6)
	x.take(t)
	x.want(t, "all taken")
	for i := range 6 {
		x.write(i, i)
		x.give(t, i)
		x.want(t, "given back")
	}
	if !bytes.Equal(row[:api.FrameSize], pattern(1)) || !bytes.Equal(row[2*api.FrameSize:], pattern(3)) {
		t.Error("bytes beside the frame are written to")
	}
}

func TestP8_1TwoSlabs(t *testing.T) {
	x, y := made(t, cut{24, 10, 16}, 8, 4), made(t, cut{24, 10, 16}, 8, 5)
	x.takes(t, 3)
	x.mark(t, 1, 9)
	x.write(2, 6)
	y.want(t, "another slab")
	y.takes(t, 1)
	y.give(t, 0)
	x.want(t, "another slab")
	y.want(t, "another slab")
}

func TestP8_2Examples(t *testing.T) {
	x := made(t, cut{24, 10, 16}, 16, 0)
	x.wantAt(t, "the examples", 1, 40, 64)
	x.takes(t, 2)
	if e := x.s.Give(0); e != api.OK {
		t.Errorf("Give(0): error %d", e)
	}
	if got := x.s.Chain(); !slices.Equal(got, []int{0, 2, 3, 4, 5, 6, 7, 8, 9}) {
		t.Errorf("the chain %v", got)
	}
	wantNoSlab(t, pattern(0), 24, 24)
	wantNoSlab(t, pattern(0), 12, 0)
}

func TestP8_2TakeAll(t *testing.T) {
	each(t, func(x both) {
		for i := range x.p.count {
			if got, e := x.take(t); got != i || e != api.OK {
				t.Errorf("Take: %d, error %d", got, e)
			}
			x.want(t, "Take")
		}
		for range 2 {
			if i, e := x.take(t); i != 0 || e != api.ErrFull {
				t.Errorf("Take of none: %d, error %d", i, e)
			}
			x.want(t, "Take of none")
		}
	})
}

// What was written into an object while it was out is gone once it is taken again.
func TestP8_2TakeMakesNoughts(t *testing.T) {
	each(t, func(x both) {
		x.takes(t, x.p.count)
		for i := range x.p.count {
			x.write(i, i+3)
		}
		x.want(t, "written")
		for i := range x.p.count {
			x.give(t, i)
			x.want(t, "given back, written")
			x.take(t)
			x.want(t, "taken again")
			x.write(i, i+4)
		}
	})
}

// Of a free object all bytes but the first are what they are: whoever writes there changes no chain.
func TestP8_2BytesOfFreeOnes(t *testing.T) {
	x := made(t, cut{24, 10, 16}, 8, 2)
	for i := range x.p.count {
		from, to := x.s.At(i)
		for at := from + 1; at < to; at++ {
			x.b[at], x.p.bytes[at] = byte(at+i), byte(at+i)
		}
	}
	x.want(t, "written")
	x.takes(t, 10)
	x.want(t, "taken")
}

// The bytes outside all objects are nobody's: they stay what they are.
func TestP8_2BytesOutside(t *testing.T) {
	x := made(t, cut{88, 2, 80}, 40, 2)
	for at := range x.b {
		if at < 40 || at >= 40+2*88 {
			x.b[at], x.p.bytes[at] = byte(at+1), byte(at+1)
		}
	}
	x.takes(t, 2)
	x.want(t, "written")
	x.give(t, 0)
	x.give(t, 1)
	x.want(t, "given back")
}

func TestP8_2GiveRefused(t *testing.T) {
	each(t, func(x both) {
		refused := func(what string) {
			t.Helper()
			for _, i := range x.none() {
				wantErr(t, what, i, x.give(t, i), api.ErrArg)
			}
			for i := range x.p.count {
				if !x.p.out[i] {
					wantErr(t, what, i, x.give(t, i), api.ErrTwice)
				} else if x.p.turns[i] != 0 {
					wantErr(t, what, i, x.give(t, i), api.ErrBusy)
				}
			}
			x.want(t, what)
		}
		refused("all free")
		x.takes(t, 1)
		refused("one is out")
		x.mark(t, 0, 5)
		refused("one is live")
		for i := 1; i < x.p.count; i++ {
			x.takes(t, 1)
			x.mark(t, i, uint64(i))
		}
		refused("all live")
		x.clear(t, 1)
		wantErr(t, "Give", 1, x.give(t, 1), api.OK)
		refused("given back")
	})
}

// orders are some ways to go over so many.
func orders(n int) [][]int {
	up := make([]int, n)
	for i := range up {
		up[i] = i
	}
	down, mixed := slices.Clone(up), slices.Clone(up)
	slices.Reverse(down)
	x := uint64(n)
	for i := range n {
		x = x*6364136223846793005 + 1442695040888963407
		k := int(x >> 33 % uint64(n))
		mixed[i], mixed[k] = mixed[k], mixed[i]
	}
	return [][]int{up, down, mixed, slices.Concat(up[n/2:], up[:n/2])}
}

// Given back in whatever order, what came last goes first.
func TestP8_2GiveInOrders(t *testing.T) {
	each(t, func(x both) {
		for _, order := range orders(x.p.count) {
			for range x.p.count {
				x.take(t)
			}
			for k, i := range order {
				x.write(i, k)
				wantErr(t, "Give", i, x.give(t, i), api.OK)
				x.want(t, "given back")
				want := slices.Clone(order[:k+1])
				slices.Reverse(want)
				if got := x.s.Chain(); !slices.Equal(got, want) {
					t.Errorf("the chain %v, not %v", got, want)
				}
			}
		}
	})
}

// Some given back, and taken again, while others stay free or out.
func TestP8_2GiveBesideFreeOnes(t *testing.T) {
	x := made(t, cut{32, 8, 0}, 0, 3)
	x.takes(t, 5)
	for _, i := range []int{3, 0, 4} {
		x.give(t, i)
		x.want(t, "given back")
	}
	if got := x.s.Chain(); !slices.Equal(got, []int{4, 0, 3, 5, 6, 7}) {
		t.Errorf("the chain %v", got)
	}
	for _, i := range []int{4, 0} {
		if got, _ := x.take(t); got != i {
			t.Errorf("Take: %d, not %d", got, i)
		}
	}
	x.give(t, 1)
	x.give(t, 0)
	x.want(t, "given back")
	if got := x.s.Chain(); !slices.Equal(got, []int{0, 1, 3, 5, 6, 7}) {
		t.Errorf("the chain %v", got)
	}
}

func TestP8_3Mark(t *testing.T) {
	each(t, func(x both) {
		x.takes(t, x.p.count)
		for _, turn := range turns {
			for i := range x.p.count {
				wantErr(t, "Mark", i, x.mark(t, i, turn), api.OK)
				x.want(t, "live")
			}
			for i := range x.p.count {
				wantErr(t, "Clear", i, x.clear(t, i), api.OK)
			}
			x.want(t, "live no more")
		}
	})
}

func TestP8_3MarkRefused(t *testing.T) {
	each(t, func(x both) {
		x.takes(t, 2)
		x.give(t, 0) // 0 is free, 1 is out
		for _, i := range append(x.none(), 0, 1) {
			wantErr(t, "Mark with the turn 0", i, x.mark(t, i, 0), api.ErrArg)
		}
		for _, turn := range turns {
			for _, i := range x.none() {
				wantErr(t, "Mark of none", i, x.mark(t, i, turn), api.ErrArg)
			}
			wantErr(t, "Mark of a free one", 0, x.mark(t, 0, turn), api.ErrNone)
		}
		x.want(t, "refused")
		for _, turn := range turns {
			wantErr(t, "Mark", 1, x.mark(t, 1, turn), api.OK)
			for _, other := range turns {
				wantErr(t, "Mark of a live one", 1, x.mark(t, 1, other), api.ErrTwice)
			}
			wantErr(t, "Mark of a live one with the turn 0", 1, x.mark(t, 1, 0), api.ErrArg)
			x.wantLive(t, "refused", 1, turn)
			x.clear(t, 1)
		}
		x.want(t, "refused")
	})
}

func TestP8_3Clear(t *testing.T) {
	each(t, func(x both) {
		for _, i := range x.none() {
			wantErr(t, "Clear of none", i, x.clear(t, i), api.ErrArg)
		}
		for i := range x.p.count {
			wantErr(t, "Clear of a free one", i, x.clear(t, i), api.ErrNone)
		}
		x.takes(t, x.p.count)
		for i := range x.p.count {
			wantErr(t, "Clear of one that is out", i, x.clear(t, i), api.ErrNone)
			x.mark(t, i, uint64(i+1))
			x.write(i, i)
		}
		x.want(t, "live")
		for i := range x.p.count {
			wantErr(t, "Clear", i, x.clear(t, i), api.OK)
			x.want(t, "live no more")
			wantErr(t, "Clear, once more", i, x.clear(t, i), api.ErrNone)
			x.want(t, "live no more")
		}
		for _, i := range x.none() {
			wantErr(t, "Clear of none", i, x.clear(t, i), api.ErrArg)
		}
	})
}

// One that is live no more is out all the same, till it is given back; taken again, it is not live.
func TestP8_3ThroughAllStates(t *testing.T) {
	x := made(t, cut{128, 2, 0}, 0, 7)
	x.wantLive(t, "free", 0, 0)
	for round := range 3 {
		i, _ := x.take(t)
		x.wantLive(t, "out", i, 0)
		wantErr(t, "Mark", i, x.mark(t, i, uint64(round+1)), api.OK)
		x.wantLive(t, "live", i, uint64(round+1))
		wantErr(t, "Give", i, x.give(t, i), api.ErrBusy)
		wantErr(t, "Clear", i, x.clear(t, i), api.OK)
		x.wantLive(t, "live no more", i, 0)
		wantErr(t, "Give", i, x.give(t, i), api.OK)
		wantErr(t, "Mark", i, x.mark(t, i, 1), api.ErrNone)
		x.wantLive(t, "given back", i, 0)
		x.want(t, "given back")
	}
}

// Objects' bytes do not touch one another, and all are within the frame.
func TestP8_4At(t *testing.T) {
	each(t, func(x both) {
		end := x.s.Colour()
		for i := range x.s.Count() {
			from, to := x.s.At(i)
			if from != end || to != from+x.s.Size() || to > api.FrameSize {
				t.Errorf("At(%d): %d, %d", i, from, to)
			}
			end = to
		}
		if end+x.s.Size() <= api.FrameSize {
			t.Errorf("%d objects, but there is room for more", x.s.Count())
		}
	})
}

// What is written into objects that are out changes neither the chain nor other objects.
func TestP8_4WrittenWhileOut(t *testing.T) {
	each(t, func(x both) {
		x.takes(t, x.p.count)
		for i := 1; i < x.p.count; i += 2 {
			x.give(t, i)
		}
		for i := 0; i < x.p.count; i += 2 {
			x.mark(t, i, 3)
			x.write(i, i)
			x.want(t, "written")
			copy(x.b[x.p.colour+i*x.p.size:], bytes.Repeat([]byte{255}, x.p.size))
			copy(x.p.of(i), bytes.Repeat([]byte{255}, x.p.size))
			x.want(t, "written")
		}
	})
}

func TestP8_4ChainIsACopy(t *testing.T) {
	x := made(t, cut{16, 16, 0}, 0, 1)
	x.takes(t, 4)
	x.give(t, 2)
	told, other := x.s.Chain(), x.s.Chain()
	want := slices.Clone(told)
	for k := range told {
		told[k] = 77
	}
	clear(append(told, 1, 2, 3))
	x.want(t, "the chain that was told was written over")
	if !slices.Equal(other, want) {
		t.Error("two chains that were told share their memory")
	}
	x.takes(t, 2)
	x.give(t, 0)
	if !slices.Equal(other, want) {
		t.Error("a chain that was told changes with the slab")
	}
	x.want(t, "behind it")
}

// The chain stands in the bytes alone: Chain and Take go by what they say.
func TestP8_4ChainAsTheBytesSay(t *testing.T) {
	x := made(t, cut{56, 4, 32}, 24, 1)
	for i, next := range []byte{2, 255, 3, 1} {
		from, _ := x.s.At(i)
		x.b[from], x.p.bytes[from] = next, next
	}
	x.p.chain = []int{0, 2, 3, 1}
	x.want(t, "bent")
	for range 4 {
		x.takes(t, 1)
		x.want(t, "taken")
	}
	x.take(t)
	x.want(t, "all taken")
}

// Whatever stands in the bytes: what is told ends, are objects, and none is taken twice.
func TestP8_4BytesWrittenOver(t *testing.T) {
	for _, fill := range []byte{0, 1, 2, 31, 32, 100, 254, 255} {
		each(t, func(x both) {
			x.takes(t, 1)
			for k := range x.b {
				x.b[k] = fill
			}
			wantBounded(t, x.s)
			took := map[int]bool{0: true}
			for range 2 * x.p.count {
				i, e := x.s.Take()
				if e != api.OK {
					if i != 0 || e != api.ErrFull {
						t.Errorf("Take: %d, error %d", i, e)
					}
					break
				}
				if took[i] || i < 0 || i >= x.p.count {
					t.Errorf("Take: %d", i)
				}
				took[i] = true
				wantBounded(t, x.s)
			}
			if got := x.s.Free(); got != x.p.count-len(took) {
				t.Errorf("%d are free, not %d", got, x.p.count-len(took))
			}
			for i := range took {
				wantErr(t, "Give", i, x.s.Give(i), api.OK)
				wantBounded(t, x.s)
			}
			if got := x.s.Free(); got != x.p.count {
				t.Errorf("%d are free, not %d", got, x.p.count)
			}
		})
	}
}

// wantBounded holds the chain against what it may be, whatever the bytes say.
func wantBounded(t *testing.T, s *chain.Slab) {
	t.Helper()
	told := s.Chain()
	if len(told) > s.Free() {
		t.Errorf("the chain %v, though %d are free", told, s.Free())
	}
	for _, i := range told {
		if i < 0 || i >= s.Count() {
			t.Errorf("the chain %v of %d objects", told, s.Count())
		}
	}
}

// Many calls, one behind the other, of what there is and of what there is not.
func TestP8_4InARow(t *testing.T) {
	each(t, func(x both) {
		seed := uint64(x.p.size + x.p.colour)
		for round := range 300 {
			seed = seed*6364136223846793005 + 1442695040888963407
			i := int(seed>>33%uint64(x.p.count+2)) - 1
			switch seed >> 50 % 8 {
			case 0, 1, 2:
				x.take(t)
			case 3, 4:
				x.give(t, i)
			case 5:
				x.mark(t, i, seed>>40%4)
			case 6:
				x.clear(t, i)
			default:
				if x.p.out[i] {
					x.write(i, round)
				}
			}
			x.want(t, "in a row")
		}
		for i := range x.p.count {
			x.clear(t, i)
			x.give(t, i)
		}
		x.want(t, "all given back")
		if got := len(x.s.Chain()); got != x.p.count {
			t.Errorf("%d of %d in the chain", got, x.p.count)
		}
	})
}

func TestP8_NotThere(t *testing.T) {
	for _, s := range []*chain.Slab{nil, {}, new(chain.Slab)} {
		for range 2 {
			if i, e := s.Take(); i != 0 || e != api.ErrNil {
				t.Errorf("Take: %d, error %d", i, e)
			}
			for _, i := range append([]int{0, 1, 2, 31, 32}, far...) {
				wantErr(t, "Give", i, s.Give(i), api.ErrNil)
				wantErr(t, "Clear", i, s.Clear(i), api.ErrNil)
				for _, turn := range append([]uint64{0}, turns...) {
					wantErr(t, "Mark", i, s.Mark(i, turn), api.ErrNil)
				}
				x := both{s: s}
				x.wantAt(t, "a slab that is not there", i, 0, 0)
				x.wantLive(t, "a slab that is not there", i, 0)
			}
			if s.Count() != 0 || s.Size() != 0 || s.Colour() != 0 || s.Free() != 0 || len(s.Chain()) != 0 {
				t.Errorf("%d objects, the size %d, the colour %d, %d free, the chain %v", s.Count(), s.Size(), s.Colour(), s.Free(), s.Chain())
			}
		}
	}
}
