package cache_test

import (
	"bytes"
	"math"
	"slices"
	"testing"

	"byre/api"
	"byre/cache"
	"byre/chain"
)

// below are frames that may not be.
var below = []int{math.MinInt, math.MinInt + 1, -1 << 32, -257, -256, -8, -2, -1}

// great are frames that may be, though no machine has them.
var great = []int{1 << 16, 1 << 32, 1<<32 + 3, math.MaxInt - 1, math.MaxInt}

// none are numbers that are no object's, whatever the size.
var none = []int{math.MinInt, -1 << 32, -256, -1, 32, 33, 255, 256, 1 << 32, 1<<32 + 1, math.MaxInt}

// cut says of a size how many objects a slab has, and the greatest colour.
type cut struct{ size, count, colours int }

// cuts are all sizes that may be.
func cuts() []cut {
	return []cut{
		{8, 32, 0}, {16, 16, 0}, {24, 10, 16}, {32, 8, 0}, {40, 6, 16}, {48, 5, 16}, {56, 4, 32}, {64, 4, 0},
		{72, 3, 40}, {80, 3, 16}, {88, 2, 80}, {96, 2, 64}, {104, 2, 48}, {112, 2, 32}, {120, 2, 16}, {128, 2, 0},
	}
}

// pattern are 256 bytes, none of them a nought, nor alike through all rounds.
func pattern(round int) []byte {
	b := make([]byte, api.FrameSize)
	for i := range b {
		b[i] = byte((i*i+7*i+101*round)%254 + 1)
	}
	return b
}

// owned is a frame's slab as it is to be, on bytes of its own.
type owned struct {
	frame int
	s     *chain.Slab
	b     []byte
}

// plain is a cache as a list of slabs, by rising frames.
type plain struct {
	cut
	colour int // of the next slab
	slabs  []owned
}

// at is where in the list the frame's slab is; -1, if it is none.
func (p *plain) at(frame int) int {
	return slices.IndexFunc(p.slabs, func(o owned) bool { return o.frame == frame })
}

// add is what Add is to answer, and to do.
func (p *plain) add(frame int, b []byte) api.Errno {
	switch {
	case frame < 0 || len(b) != api.FrameSize:
		return api.ErrArg
	case p.at(frame) >= 0:
		return api.ErrTwice
	}
	o := owned{frame: frame, b: slices.Clone(b)}
	o.s, _ = chain.New(o.b, p.size, p.colour)
	p.slabs = append(p.slabs, o)
	slices.SortFunc(p.slabs, func(x, y owned) int {
		if x.frame < y.frame {
			return -1
		}
		return 1
	})
	p.colour += 8
	if p.colour > p.colours {
		p.colour = 0
	}
	return api.OK
}

// take is what Take is to answer, and to do.
func (p *plain) take() (frame, i int, e api.Errno) {
	for _, whole := range []bool{false, true} {
		for _, o := range p.slabs {
			if o.s.Free() > 0 && (o.s.Free() == p.count) == whole {
				i, e = o.s.Take()
				return o.frame, i, e
			}
		}
	}
	return 0, 0, api.ErrNone
}

// give is what Give is to answer, and to do.
func (p *plain) give(frame, i int) api.Errno {
	at := p.at(frame)
	if at < 0 {
		return api.ErrNone
	}
	return p.slabs[at].s.Give(i)
}

// drop is what Drop is to answer, and to do.
func (p *plain) drop(frame int) api.Errno {
	at := p.at(frame)
	switch {
	case at < 0:
		return api.ErrNone
	case p.slabs[at].s.Free() != p.count:
		return api.ErrBusy
	}
	p.slabs = slices.Delete(p.slabs, at, at+1)
	return api.OK
}

// frames are those of all slabs, or of the empty ones alone.
func (p *plain) frames(whole bool) []int {
	var all []int
	for _, o := range p.slabs {
		if !whole || o.s.Free() == p.count {
			all = append(all, o.frame)
		}
	}
	return all
}

// both is a cache, the bytes that it was handed, by frames, and a plain one that is to be as it is.
type both struct {
	c *cache.Cache
	b map[int][]byte
	p *plain
}

// made is a new cache.
func made(t *testing.T, x cut) both {
	t.Helper()
	c, e := cache.New(x.size)
	if c == nil || e != api.OK {
		t.Fatalf("New(%d): %v, error %d", x.size, c, e)
	}
	return both{c, map[int][]byte{}, &plain{cut: x}}
}

// with is a new cache with slabs of these frames, added in this order.
func with(t *testing.T, x cut, frames ...int) both {
	t.Helper()
	y := made(t, x)
	for k, frame := range frames {
		y.adds(t, frame, k)
	}
	return y
}

// each hands to ask a new cache of each size.
func each(t *testing.T, ask func(x both)) {
	t.Helper()
	for _, x := range cuts() {
		ask(made(t, x))
		if t.Failed() {
			t.Fatalf("the size %d", x.size)
		}
	}
}

// adds adds a frame, whose bytes have that pattern.
func (x both) adds(t *testing.T, frame, round int) {
	t.Helper()
	if e := x.add(t, frame, pattern(round)); e != api.OK {
		t.Fatalf("Add(%d): error %d", frame, e)
	}
}

// add holds what Add answers against what it is to answer; bytes that are refused must stay as they were.
func (x both) add(t *testing.T, frame int, b []byte) api.Errno {
	t.Helper()
	before := slices.Clone(b)
	err := x.p.add(frame, b)
	if e := x.c.Add(frame, b); e != err {
		t.Errorf("Add(%d) of %d bytes: error %d, not %d", frame, len(b), e, err)
	}
	if err == api.OK {
		x.b[frame] = b
	} else if !bytes.Equal(b, before) {
		t.Errorf("Add(%d): what was refused is written to", frame)
	}
	return err
}

// take holds what Take answers against what it is to answer.
func (x both) take(t *testing.T) (int, int, api.Errno) {
	t.Helper()
	frame, i, err := x.p.take()
	if f, k, e := x.c.Take(); f != frame || k != i || e != err {
		t.Errorf("Take: %d %d, error %d; not %d %d, error %d", f, k, e, frame, i, err)
	}
	return frame, i, err
}

// wantTake holds what Take answers, of the cache and of the plain one, against an object.
func (x both) wantTake(t *testing.T, frame, i int) {
	t.Helper()
	if f, k, e := x.take(t); f != frame || k != i || e != api.OK {
		t.Errorf("Take: %d %d, error %d; not %d %d", f, k, e, frame, i)
	}
}

// wantNone holds what Take answers, of the cache and of the plain one, against that there is none.
func (x both) wantNone(t *testing.T) {
	t.Helper()
	for range 2 {
		if f, k, e := x.take(t); f != 0 || k != 0 || e != api.ErrNone {
			t.Errorf("Take of none: %d %d, error %d", f, k, e)
		}
	}
}

// give holds what Give answers against what it is to answer.
func (x both) give(t *testing.T, frame, i int) api.Errno {
	t.Helper()
	err := x.p.give(frame, i)
	if e := x.c.Give(frame, i); e != err {
		t.Errorf("Give(%d, %d): error %d, not %d", frame, i, e, err)
	}
	return err
}

// wantGive holds what Give answers, of the cache and of the plain one, against the error that it is to tell.
func (x both) wantGive(t *testing.T, frame, i int, want api.Errno) {
	t.Helper()
	if e := x.give(t, frame, i); e != want {
		t.Errorf("Give(%d, %d): error %d, not %d", frame, i, e, want)
	}
}

// drop holds what Drop answers against what it is to answer.
func (x both) drop(t *testing.T, frame int) api.Errno {
	t.Helper()
	err := x.p.drop(frame)
	if e := x.c.Drop(frame); e != err {
		t.Errorf("Drop(%d): error %d, not %d", frame, e, err)
	}
	if err == api.OK {
		delete(x.b, frame)
	}
	return err
}

// wantDrop holds what Drop answers, of the cache and of the plain one, against the error that it is to tell.
func (x both) wantDrop(t *testing.T, frame int, want api.Errno) {
	t.Helper()
	if e := x.drop(t, frame); e != want {
		t.Errorf("Drop(%d): error %d, not %d", frame, e, want)
	}
}

// slab is the frame's slab, and the plain one's.
func (x both) slab(t *testing.T, frame int) (s, other *chain.Slab) {
	t.Helper()
	s, e := x.c.Slab(frame)
	at := x.p.at(frame)
	if s == nil || e != api.OK || at < 0 {
		t.Fatalf("Slab(%d): %v, error %d", frame, s, e)
	}
	return s, x.p.slabs[at].s
}

// mark makes an object live, through the frame's slab.
func (x both) mark(t *testing.T, frame, i int) {
	t.Helper()
	s, other := x.slab(t, frame)
	if e, err := s.Mark(i, 7), other.Mark(i, 7); e != err || e != api.OK {
		t.Errorf("Mark of %d %d: error %d, not %d", frame, i, e, err)
	}
}

// write writes that pattern to an object that is out.
func (x both) write(frame, i, round int) {
	o := x.p.slabs[x.p.at(frame)]
	from, to := o.s.At(i)
	copy(x.b[frame][from:to], pattern(round))
	copy(o.b[from:to], pattern(round))
}

// want holds all that a cache tells, and its slabs and their bytes, against what they are to be.
func (x both) want(t *testing.T, what string) {
	t.Helper()
	if got := x.c.Size(); got != x.p.size {
		t.Errorf("%s: the size %d, not %d", what, got, x.p.size)
	}
	if got, want := x.c.Frames(), x.p.frames(false); !slices.Equal(got, want) {
		t.Errorf("%s: the frames %v, not %v", what, got, want)
	}
	if got, want := x.c.Empty(), x.p.frames(true); !slices.Equal(got, want) {
		t.Errorf("%s: %v are empty, not %v", what, got, want)
	}
	for _, o := range x.p.slabs {
		x.wantSlab(t, what, o)
	}
	for _, frame := range slices.Concat(below, great, []int{0, 1, 2, 255, 256}) {
		if x.p.at(frame) < 0 {
			wantNoSlab(t, what, x.c, frame, api.ErrNone)
		}
	}
}

// wantSlab holds a slab and its bytes against what they are to be.
func (x both) wantSlab(t *testing.T, what string, o owned) {
	t.Helper()
	s, _ := x.slab(t, o.frame)
	if s.Size() != o.s.Size() || s.Colour() != o.s.Colour() || s.Count() != o.s.Count() || s.Free() != o.s.Free() {
		t.Errorf("%s: the slab %d: the size %d, the colour %d, %d of %d free; not %d, %d, %d of %d", what, o.frame, s.Size(), s.Colour(), s.Free(), s.Count(), o.s.Size(), o.s.Colour(), o.s.Free(), o.s.Count())
	}
	if got, want := s.Chain(), o.s.Chain(); !slices.Equal(got, want) {
		t.Errorf("%s: the slab %d: the chain %v, not %v", what, o.frame, got, want)
	}
	for i := range o.s.Count() {
		turn, ok := o.s.Live(i)
		if got, live := s.Live(i); got != turn || live != ok {
			t.Errorf("%s: Live of %d %d: %d, %t; not %d, %t", what, o.frame, i, got, live, turn, ok)
		}
	}
	if !bytes.Equal(x.b[o.frame], o.b) {
		t.Errorf("%s: the slab %d: the bytes\n%v, not\n%v", what, o.frame, x.b[o.frame], o.b)
	}
}

// wantNoSlab holds what Slab answers of a frame that is none against the error that it is to tell.
func wantNoSlab(t *testing.T, what string, c *cache.Cache, frame int, want api.Errno) {
	t.Helper()
	if s, e := c.Slab(frame); s != nil || e != want {
		t.Errorf("%s: Slab(%d): %v, error %d, not %d", what, frame, s, e, want)
	}
}

// wantNoCache holds New against its refusal.
func wantNoCache(t *testing.T, size int) {
	t.Helper()
	if c, e := cache.New(size); c != nil || e != api.ErrArg {
		t.Errorf("New(%d): %v, error %d", size, c, e)
	}
}

// wantColour holds the colour of a frame's slab against the one that it is to have.
func (x both) wantColour(t *testing.T, frame, colour int) {
	t.Helper()
	if s, _ := x.slab(t, frame); s.Colour() != colour {
		t.Errorf("the slab %d of the size %d: the colour %d, not %d", frame, x.p.size, s.Colour(), colour)
	}
}

func TestP9_1New(t *testing.T) {
	each(t, func(x both) {
		x.want(t, "New")
		x.wantNone(t)
		x.want(t, "New, none taken")
	})
}

func TestP9_1NewOfWrongSizes(t *testing.T) {
	good := map[int]bool{}
	for _, x := range cuts() {
		good[x.size] = true
	}
	if len(good) != 16 {
		t.Fatalf("%d sizes", len(good))
	}
	for size := -300; size <= 600; size++ {
		if !good[size] {
			wantNoCache(t, size)
		}
	}
	for _, size := range slices.Concat(below, great, []int{0, 4, 12, 132, 136, math.MinInt + 8, 1<<32 + 8, math.MaxInt - 7}) {
		wantNoCache(t, size)
	}
}

func TestP9_1TwoCaches(t *testing.T) {
	x, y := made(t, cut{24, 10, 16}), made(t, cut{24, 10, 16})
	x.adds(t, 3, 0)
	x.adds(t, 4, 1)
	y.want(t, "another cache")
	y.adds(t, 3, 2)
	y.wantColour(t, 3, 0)
	x.wantTake(t, 3, 0)
	y.want(t, "another cache")
	y.wantDrop(t, 3, api.OK)
	x.want(t, "another cache")
	y.want(t, "another cache")
}

func TestP9_2Add(t *testing.T) {
	each(t, func(x both) {
		for k, frame := range append([]int{5, 0, 127, 1, 1023}, great...) {
			x.adds(t, frame, k)
			x.want(t, "Add")
		}
	})
}

// The first bytes of a slab's objects are written, no others: those of the colour neither.
func TestP9_2AddWrites(t *testing.T) {
	x := made(t, cut{104, 2, 48})
	for k, frame := range []int{2, 0, 1} {
		x.adds(t, frame, k)
		want := pattern(k)
		want[8*k], want[8*k+104] = 1, 255
		if !bytes.Equal(x.b[frame], want) {
			t.Errorf("the bytes of %d:\n%v, not\n%v", frame, x.b[frame], want)
		}
	}
}

// refused are Adds to a cache that has the frame 3, 0 and the greatest one.
func refused(t *testing.T, x both) {
	t.Helper()
	adding := func(frame int, b []byte, want api.Errno) {
		t.Helper()
		if e := x.add(t, frame, b); e != want {
			t.Errorf("Add(%d) of %d bytes: error %d, not %d", frame, len(b), e, want)
		}
	}
	for _, frame := range below {
		adding(frame, pattern(9), api.ErrArg)
		adding(frame, nil, api.ErrArg)
	}
	for _, frame := range []int{0, 1, 3, math.MaxInt} { // ErrArg is named first: also of one that is a slab
		adding(frame, nil, api.ErrArg)
		for _, many := range []int{0, 1, x.p.size, 128, 254, 255, 257, 258, 512, 1 << 16} {
			adding(frame, bytes.Repeat([]byte{9}, many), api.ErrArg)
			adding(frame, bytes.Repeat([]byte{9}, 1<<17)[:many], api.ErrArg) // room behind them does not count
		}
	}
	for _, frame := range []int{0, 3, math.MaxInt} {
		adding(frame, pattern(9), api.ErrTwice)
		adding(frame, x.b[frame], api.ErrTwice) // its own bytes
	}
}

func TestP9_2AddRefused(t *testing.T) {
	for _, y := range cuts() {
		x := with(t, y, 3, 0, math.MaxInt)
		refused(t, x)
		x.want(t, "refused")
		x.wantTake(t, 0, 0)
		x.write(0, 0, 4)
		refused(t, x)
		x.want(t, "refused, one is out")
		x.adds(t, 1, 5)
		x.want(t, "the one behind those that were refused")
	}
}

// A frame that is refused is none of the slabs, and the next slab has the colour that it would have had.
func TestP9_2ColourBehindRefused(t *testing.T) {
	x := made(t, cut{24, 10, 16})
	for k := range 7 {
		for range k + 1 {
			x.add(t, -1, pattern(k))
			x.add(t, k, nil)
			x.add(t, k, pattern(k)[:255])
			x.add(t, k-1, pattern(k)) // of 0: below 0; else a slab
		}
		x.adds(t, k, k)
		x.wantColour(t, k, 8*(k%3))
	}
	x.want(t, "refused ones between them")
}

func TestP9_2Colours(t *testing.T) {
	each(t, func(x both) {
		colours := x.p.colours/8 + 1
		for k := range 3*colours + 2 {
			x.adds(t, 1000-k, k)
			x.wantColour(t, 1000-k, 8*(k%colours))
		}
		x.want(t, "many colours")
	})
}

// What is dropped has had its colour: the next slab goes on from there.
func TestP9_2ColoursBehindDrops(t *testing.T) {
	each(t, func(x both) {
		colours := x.p.colours/8 + 1
		for k := range 3*colours + 6 {
			if k >= 4 {
				x.wantDrop(t, k%4, api.OK)
			}
			x.adds(t, k%4, k)
			x.wantColour(t, k%4, 8*(k%colours))
			x.want(t, "drops in between")
		}
	})
}

// Also where each slab is dropped at once, and the cache has none when the next one is added.
func TestP9_2ColoursOfOneAtATime(t *testing.T) {
	each(t, func(x both) {
		colours := x.p.colours/8 + 1
		for k := range 3*colours + 2 {
			x.adds(t, 9, k)
			x.wantColour(t, 9, 8*(k%colours))
			x.wantDrop(t, 9, api.OK)
			x.want(t, "dropped at once")
		}
	})
}

// A frame that was dropped is added again like any other one: of new bytes, all free, with the next colour.
func TestP9_2AddAgain(t *testing.T) {
	x := with(t, cut{56, 4, 32}, 6, 2)
	x.wantTake(t, 2, 0)
	x.mark(t, 2, 0)
	s, other := x.slab(t, 2)
	s.Clear(0)
	other.Clear(0)
	x.wantGive(t, 2, 0, api.OK)
	x.wantDrop(t, 2, api.OK)
	x.adds(t, 2, 5)
	x.wantColour(t, 2, 16)
	x.want(t, "added again")
	if again, _ := x.slab(t, 2); again == s {
		t.Error("added again, the slab is the old one")
	}
	x.add(t, 2, pattern(1))
	x.wantTake(t, 2, 0)
	x.want(t, "added again, and once more")
}

// The slabs work on the bytes that were handed in, and on none beside them.
func TestP9_2TheseVeryBytes(t *testing.T) {
	row := slices.Concat(pattern(1), pattern(2), pattern(3))
	x := made(t, cut{40, 6, 16})
	if e := x.add(t, 1, row[api.FrameSize:2*api.FrameSize]); e != api.OK {
		t.Fatalf("Add: error %d", e)
	}
	x.want(t, "Add")
	for i := range 6 {
		x.wantTake(t, 1, i)
		x.write(1, i, i)
	}
	x.want(t, "taken")
	for i := range 6 {
		x.wantGive(t, 1, i, api.OK)
	}
	x.want(t, "given back")
	if !bytes.Equal(row[:api.FrameSize], pattern(1)) || !bytes.Equal(row[2*api.FrameSize:], pattern(3)) {
		t.Error("bytes beside the frame are written to")
	}
}

func TestP9_3Examples(t *testing.T) {
	x := with(t, cut{128, 2, 0}, 3, 5)
	x.wantTake(t, 3, 0)
	x.wantTake(t, 3, 1)
	x.wantTake(t, 5, 0)
	x.wantGive(t, 3, 1, api.OK)
	x.wantTake(t, 3, 1)
	if got := x.c.Empty(); len(got) != 0 {
		t.Errorf("%v are empty", got)
	}
	x.wantDrop(t, 5, api.ErrBusy)
	x.want(t, "the examples")
}

// orders are ways to add four frames.
func orders() [][]int {
	return [][]int{{2, 5, 9, 11}, {11, 9, 5, 2}, {5, 2, 11, 9}, {9, 11, 2, 5}, {5, 11, 2, 9}}
}

// Of empty slabs alone the one with the smallest frame is begun; it is emptied out ahead of the next one.
func TestP9_3TakeAll(t *testing.T) {
	for _, order := range orders() {
		for _, y := range cuts() {
			x := with(t, y, order...)
			for _, frame := range []int{2, 5, 9, 11} {
				for i := range y.count {
					x.wantTake(t, frame, i)
					x.want(t, "Take")
				}
			}
			x.wantNone(t)
			x.want(t, "Take of none")
		}
	}
}

// Added behind it, an empty slab with a smaller frame waits till no slab is partial.
func TestP9_3PartialAheadOfEmpty(t *testing.T) {
	each(t, func(x both) {
		x.adds(t, 8, 0)
		x.wantTake(t, 8, 0)
		x.adds(t, 0, 1)
		x.adds(t, 9, 2)
		for i := 1; i < x.p.count; i++ {
			x.wantTake(t, 8, i)
			x.want(t, "the partial one")
		}
		x.wantTake(t, 0, 0)
		x.want(t, "an empty one is begun")
	})
}

// taken is a cache with all objects of these frames taken.
func taken(t *testing.T, y cut, frames ...int) both {
	t.Helper()
	x := with(t, y, frames...)
	for range y.count * len(frames) {
		x.take(t)
	}
	x.wantNone(t)
	return x
}

// With a full slab, partial ones and an empty one, whatever the order of their frames, and of their Adds.
func TestP9_3AllStates(t *testing.T) {
	for _, order := range orders() {
		for full := range 4 {
			for whole := range 4 {
				if full == whole {
					continue
				}
				x := taken(t, cut{24, 10, 16}, order...)
				var parts []int
				for at, frame := range []int{2, 5, 9, 11} {
					switch at {
					case full:
					case whole:
						for i := range 10 {
							x.wantGive(t, frame, i, api.OK)
						}
					default:
						parts = append(parts, frame)
						x.wantGive(t, frame, at+1, api.OK)
						x.wantGive(t, frame, at+2, api.OK)
					}
				}
				x.want(t, "all states")
				for _, frame := range parts {
					x.wantTake(t, frame, slices.Index([]int{2, 5, 9, 11}, frame)+2)
					x.wantTake(t, frame, slices.Index([]int{2, 5, 9, 11}, frame)+1)
					x.want(t, "partial ones first")
				}
				for i := range 10 {
					x.wantTake(t, []int{2, 5, 9, 11}[whole], 9-i)
				}
				x.wantNone(t)
				x.want(t, "all taken")
			}
		}
	}
}

// A partial slab with a smaller frame goes first, also if it becomes partial last.
func TestP9_3SmallestPartial(t *testing.T) {
	x := taken(t, cut{64, 4, 0}, 4, 20, 12)
	x.wantGive(t, 20, 2, api.OK)
	x.wantGive(t, 12, 1, api.OK)
	x.wantGive(t, 12, 3, api.OK)
	x.wantTake(t, 12, 3)
	x.wantGive(t, 4, 0, api.OK)
	x.wantTake(t, 4, 0)
	x.wantTake(t, 12, 1)
	x.wantTake(t, 20, 2)
	x.wantNone(t)
	x.want(t, "the smallest ones")
}

// A slab that was full is partial behind a Give, and empty behind the last one.
func TestP9_3FromFullToEmpty(t *testing.T) {
	each(t, func(x both) {
		x.adds(t, 7, 0)
		x.adds(t, 4, 1)
		for range 2 * x.p.count {
			x.take(t)
		}
		for k := range x.p.count {
			i := (k + 1) % x.p.count
			x.wantDrop(t, 7, api.ErrBusy)
			x.wantGive(t, 7, i, api.OK)
			x.want(t, "given back")
			x.wantGive(t, 7, i, api.ErrTwice)
			if k < x.p.count-1 {
				x.wantTake(t, 7, i) // partial: there is one again, and it comes from here
				x.wantGive(t, 7, i, api.OK)
			}
		}
		x.want(t, "empty")
		if got := x.c.Empty(); !slices.Equal(got, []int{7}) {
			t.Errorf("%v are empty", got)
		}
		x.wantGive(t, 4, 0, api.OK)
		x.wantTake(t, 4, 0) // partial, ahead of the empty one
		x.wantTake(t, 7, 0)
		x.want(t, "begun again")
	})
}

func TestP9_3GiveRefused(t *testing.T) {
	each(t, func(x both) {
		refused := func(what string) {
			t.Helper()
			for _, frame := range slices.Concat(below, great, []int{0, 1, 4, 6, 255, 256}) {
				for _, i := range append([]int{0, 1}, none...) {
					x.wantGive(t, frame, i, api.ErrNone)
				}
			}
			for _, frame := range x.p.frames(false) {
				for _, i := range append([]int{x.p.count, x.p.count + 1}, none...) {
					x.wantGive(t, frame, i, api.ErrArg)
				}
			}
			x.want(t, what)
		}
		refused("no slab")
		x.adds(t, 5, 0)
		x.adds(t, 3, 1)
		refused("empty ones")
		for i := range x.p.count {
			x.wantGive(t, 3, i, api.ErrTwice)
			x.wantGive(t, 5, i, api.ErrTwice)
		}
		x.wantTake(t, 3, 0)
		x.wantTake(t, 3, 1)
		x.mark(t, 3, 1)
		x.wantGive(t, 3, 1, api.ErrBusy)
		x.wantGive(t, 5, 0, api.ErrTwice) // out is another slab's
		refused("one is live")
		x.wantGive(t, 3, 0, api.OK)
		x.wantGive(t, 3, 0, api.ErrTwice)
		refused("one is given back")
		x.wantDrop(t, 5, api.OK)
		x.wantGive(t, 5, 0, api.ErrNone)
		refused("one is dropped")
	})
}

// What is taken has noughts, whatever stood there.
func TestP9_3TakenAreNoughts(t *testing.T) {
	each(t, func(x both) {
		x.adds(t, 1, 0)
		x.adds(t, 0, 1)
		for round := range 3 {
			for range 2 * x.p.count {
				frame, i, _ := x.take(t)
				s, _ := x.slab(t, frame)
				from, to := s.At(i)
				if !bytes.Equal(x.b[frame][from:to], make([]byte, x.p.size)) {
					t.Errorf("the bytes of %d %d: %v", frame, i, x.b[frame][from:to])
				}
				x.write(frame, i, round+frame)
			}
			x.want(t, "written")
			for i := range x.p.count {
				x.wantGive(t, 0, i, api.OK)
				x.wantGive(t, 1, i, api.OK)
			}
		}
	})
}

// Where others have written over a free object's bytes the slab tells an error: that is all that is told.
func TestP9_3BytesWrittenOver(t *testing.T) {
	x := with(t, cut{128, 2, 0}, 9, 8)
	x.b[8][0] = 200 // says what is behind the object 0: no object
	if frame, i, e := x.c.Take(); frame != 8 || i != 0 || e != api.OK {
		t.Errorf("Take: %d %d, error %d", frame, i, e)
	}
	if frame, i, e := x.c.Take(); frame != 0 || i != 0 || e != api.ErrFull {
		t.Errorf("Take: %d %d, error %d", frame, i, e)
	}
	if e := x.c.Give(8, 0); e != api.OK {
		t.Errorf("Give: error %d", e)
	}
}

// What is marked, taken or given through the slab itself holds in the cache, and the other way round.
func TestP9_4SlabItself(t *testing.T) {
	each(t, func(x both) {
		x.adds(t, 6, 0)
		x.adds(t, 2, 1)
		s, other := x.slab(t, 6)
		if again, _ := x.c.Slab(6); again != s {
			t.Error("Slab tells another slab than before")
		}
		s.Take()
		other.Take()
		x.want(t, "taken through it")
		x.wantDrop(t, 6, api.ErrBusy)
		x.wantTake(t, 6, 1) // partial, so ahead of the empty one
		s.Mark(1, 5)
		other.Mark(1, 5)
		x.want(t, "marked through it")
		x.wantGive(t, 6, 1, api.ErrBusy)
		s.Clear(1)
		other.Clear(1)
		x.wantGive(t, 6, 1, api.OK)
		x.wantDrop(t, 6, api.ErrBusy)
		s.Give(0)
		other.Give(0)
		x.want(t, "given through it")
		x.wantTake(t, 2, 0) // empty again, so behind the smaller one
		if again, _ := x.c.Slab(6); again != s {
			t.Error("Slab tells another slab than before")
		}
	})
}

// A slab that others take all of is passed over, and none is left if it is the last one.
func TestP9_4FullThroughTheSlab(t *testing.T) {
	x := with(t, cut{80, 3, 16}, 1, 2)
	for _, frame := range []int{1, 2} {
		s, other := x.slab(t, frame)
		for range 3 {
			s.Take()
			other.Take()
		}
		x.want(t, "full")
	}
	x.wantNone(t)
	s, other := x.slab(t, 2)
	s.Give(1)
	other.Give(1)
	x.wantTake(t, 2, 1)
	x.wantNone(t)
}

func TestP9_4Lists(t *testing.T) {
	for _, order := range append(orders(), []int{math.MaxInt, 0, 1 << 32, 7, 1, 128, 127, 126, 3, 64, 2, 65}) {
		x := with(t, cut{48, 5, 16}, order...)
		rising := slices.Sorted(slices.Values(order))
		if got := x.c.Frames(); !slices.Equal(got, rising) {
			t.Errorf("the frames %v, not %v", got, rising)
		}
		if got := x.c.Empty(); !slices.Equal(got, rising) {
			t.Errorf("%v are empty, not %v", got, rising)
		}
		for k, frame := range rising { // from the one with the smallest frame on
			for range 5 {
				x.take(t)
				if got := x.c.Empty(); !slices.Equal(got, rising[k+1:]) {
					t.Errorf("%d begun: %v are empty, not %v", frame, got, rising[k+1:])
				}
			}
		}
		if got := x.c.Frames(); !slices.Equal(got, rising) {
			t.Errorf("the frames %v, not %v", got, rising)
		}
	}
}

func TestP9_4ListsAreCopies(t *testing.T) {
	for _, told := range []func(c *cache.Cache) []int{(*cache.Cache).Frames, (*cache.Cache).Empty} {
		x := with(t, cut{16, 16, 0}, 4, 1, 9)
		first, other := told(x.c), told(x.c)
		for k := range first {
			first[k] = -7
		}
		clear(append(first, 1, 2, 3)[:3])
		x.want(t, "the list that was told was written over")
		if !slices.Equal(other, []int{1, 4, 9}) {
			t.Errorf("two lists that were told share their memory: %v", other)
		}
		x.take(t)
		x.wantDrop(t, 4, api.OK)
		x.adds(t, 2, 1)
		if !slices.Equal(other, []int{1, 4, 9}) {
			t.Errorf("a list that was told changes with the cache: %v", other)
		}
		x.want(t, "behind it")
	}
	x := with(t, cut{16, 16, 0}, 3, 5)
	frames, empty := x.c.Frames(), x.c.Empty()
	clear(frames)
	if !slices.Equal(empty, []int{3, 5}) {
		t.Error("Frames and Empty share their memory")
	}
}

func TestP9_4Drop(t *testing.T) {
	each(t, func(x both) {
		for _, frame := range slices.Concat(below, great, []int{0, 1, 5}) {
			x.wantDrop(t, frame, api.ErrNone)
		}
		for k, frame := range []int{5, 1, math.MaxInt} {
			x.adds(t, frame, k)
		}
		for _, frame := range slices.Concat(below, []int{0, 2, 4, 6, 1 << 32, math.MaxInt - 1}) {
			x.wantDrop(t, frame, api.ErrNone)
		}
		x.want(t, "none dropped")
		for k := range x.p.count {
			x.wantTake(t, 1, k)
			x.wantDrop(t, 1, api.ErrBusy)
			x.want(t, "partial, full")
		}
		x.wantDrop(t, math.MaxInt, api.OK)
		x.want(t, "an empty one")
		x.wantDrop(t, math.MaxInt, api.ErrNone)
		x.mark(t, 1, 0)
		x.wantDrop(t, 1, api.ErrBusy)
		for i := 1; i < x.p.count; i++ {
			x.wantGive(t, 1, i, api.OK)
			x.wantDrop(t, 1, api.ErrBusy)
		}
		x.want(t, "one is live")
		s, other := x.slab(t, 1)
		s.Clear(0)
		other.Clear(0)
		x.wantDrop(t, 1, api.ErrBusy)
		x.wantGive(t, 1, 0, api.OK)
		x.wantDrop(t, 1, api.OK)
		x.want(t, "given back")
		x.wantDrop(t, 5, api.OK)
		x.want(t, "all dropped")
		x.wantNone(t)
		x.wantDrop(t, 5, api.ErrNone)
	})
}

// A dropped frame's bytes are another one's: nothing that the cache is asked for touches them.
func TestP9_4DroppedBytes(t *testing.T) {
	each(t, func(x both) {
		x.adds(t, 2, 0)
		x.adds(t, 7, 1)
		b := x.b[2]
		told := slices.Clone(b)
		x.wantDrop(t, 2, api.OK)
		if !bytes.Equal(b, told) {
			t.Error("Drop writes to the frame")
		}
		copy(b, pattern(5))
		for i := range x.p.count {
			x.wantTake(t, 7, i)
			x.write(7, i, i)
		}
		x.wantNone(t)
		for i := range x.p.count {
			x.wantGive(t, 2, i, api.ErrNone)
			x.wantGive(t, 7, i, api.OK)
		}
		wantNoSlab(t, "dropped", x.c, 2, api.ErrNone)
		x.wantDrop(t, 2, api.ErrNone)
		x.adds(t, 2, 3) // of other bytes
		x.wantTake(t, 2, 0)
		if !bytes.Equal(b, pattern(5)) {
			t.Error("the bytes of a frame that was dropped are written to")
		}
		x.want(t, "behind it")
	})
}

// Many calls, one behind the other, of what there is and of what there is not.
func TestP9_4InARow(t *testing.T) {
	for _, y := range cuts() {
		x := made(t, y)
		seed := uint64(y.size)
		for round := range 400 {
			seed = seed*6364136223846793005 + 1442695040888963407
			frame, i := int(seed>>33%8)-1, int(seed>>41%uint64(y.count+2))-1
			switch seed >> 50 % 8 {
			case 0, 1:
				x.add(t, frame, pattern(round))
			case 2, 3, 4:
				if f, k, e := x.take(t); e == api.OK {
					x.write(f, k, round)
				}
			case 5, 6:
				x.give(t, frame, i)
			default:
				x.drop(t, frame)
			}
			x.want(t, "in a row")
		}
		for _, o := range slices.Clone(x.p.slabs) {
			for i := range y.count {
				x.give(t, o.frame, i)
			}
			x.wantDrop(t, o.frame, api.OK)
		}
		x.want(t, "all given back")
		x.wantNone(t)
	}
}

func TestP9_NotThere(t *testing.T) {
	for _, c := range []*cache.Cache{nil, {}, new(cache.Cache)} {
		for range 2 {
			for _, frame := range slices.Concat(below, great, []int{0, 1, 3}) {
				b := pattern(1)
				for _, e := range []api.Errno{c.Add(frame, b), c.Add(frame, nil), c.Add(frame, b[:255]), c.Give(frame, 0), c.Give(frame, -1), c.Drop(frame)} {
					if e != api.ErrNil {
						t.Errorf("a cache that is not there, the frame %d: error %d", frame, e)
					}
				}
				if !bytes.Equal(b, pattern(1)) {
					t.Error("a cache that is not there writes to bytes")
				}
				wantNoSlab(t, "a cache that is not there", c, frame, api.ErrNil)
			}
			if frame, i, e := c.Take(); frame != 0 || i != 0 || e != api.ErrNil {
				t.Errorf("Take: %d %d, error %d", frame, i, e)
			}
			if c.Size() != 0 || len(c.Frames()) != 0 || len(c.Empty()) != 0 {
				t.Errorf("the size %d, the frames %v, %v empty", c.Size(), c.Frames(), c.Empty())
			}
		}
	}
}
