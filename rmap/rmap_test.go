package rmap_test

import (
	"math"
	"slices"
	"testing"

	"byre/api"
	"byre/rmap"
)

// What the chapter names, in its own numbers.
const (
	maxPlaces = 1024
	maxPages  = 1024
	maxProcs  = 8
)

// frames are frames, of which most maps have but the smaller ones.
var frames = []int{
	math.MinInt, math.MinInt + 1, math.MinInt + 2, -1 << 32, 1 - 1<<32, -1024, -4, -2, -1,
	0, 1, 2, 3, 4, 5, 7, 8, 9, 63, 64, 255, 256, 511, 512, 1022, 1023,
	1024, 1025, 2047, 2048, 1 << 16, 1 << 32, 1<<32 + 1, 1<<32 + 2, 1 << 62, 1<<62 + 2, math.MaxInt - 1, math.MaxInt,
}

// pids are pids, those that may be and others.
var pids = []int{
	math.MinInt, math.MinInt + 1, math.MinInt + 8, -1 << 32, 1 - 1<<32, -256, -255, -8, -7, -1, 0,
	1, 2, 3, 4, 5, 6, 7, 8,
	9, 10, 16, 17, 255, 256, 257, 1 << 16, 1<<16 + 1, 1 << 32, 1<<32 + 1, 1 << 62, 1<<62 + 1, math.MaxInt - 1, math.MaxInt,
}

// pages are pages, those that may be and others.
var pages = []int{
	math.MinInt, math.MinInt + 1, math.MinInt + 7, -1 << 32, 7 - 1<<32, -1024, -1023, -7, -2, -1,
	0, 1, 2, 5, 6, 7, 8, 31, 32, 255, 256, 511, 512, 1022, 1023,
	1024, 1025, 1031, 2047, 2048, 1 << 16, 1<<16 + 7, 1 << 32, 1<<32 + 7, 1 << 62, 1<<62 + 7, math.MaxInt - 1, math.MaxInt,
}

// owner is a page of a process; a zero one is nobody's.
type owner struct{ pid, page int }

// may tells whether there may be the process and the page.
func (o owner) may() bool {
	return o.pid > 0 && o.pid < 9 && o.page > -1 && o.page < 1024
}

// told is a page and its frame, as Of tells them.
type told struct{ page, frame int }

// both are a map and a plain row of owners, one a frame, that is to be as it is.
type both struct {
	m   *rmap.Map
	row []owner
}

// made is a map of so many frames, and its row.
func made(t *testing.T, many int) both {
	t.Helper()
	x := both{rmap.New(many), make([]owner, many)}
	x.want(t, "New")
	return x
}

// some is a map of eight frames, of which three are the process 1's, one is the process 2's, one the last one's, and three are nobody's.
func some(t *testing.T) both {
	t.Helper()
	x := made(t, 8)
	x.wantSet(t, 2, 1, 7, api.OK)
	x.wantSet(t, 6, 1, 0, api.OK)
	x.wantSet(t, 0, 1, 1023, api.OK)
	x.wantSet(t, 3, 2, 7, api.OK)
	x.wantSet(t, 7, 8, 1023, api.OK)
	x.want(t, "some frames")
	return x
}

// has tells whether there is such a frame.
func (x both) has(frame int) bool {
	return frame > -1 && frame < len(x.row)
}

// whose is whose the frame is to be.
func (x both) whose(frame int) owner {
	if !x.has(frame) {
		return owner{}
	}
	return x.row[frame]
}

// of is what Of is to tell: what the row says of the process, put in order by pages.
func (x both) of(pid int) []told {
	var l []told
	for frame, o := range x.row {
		if o.pid == pid && pid > 0 {
			l = append(l, told{o.page, frame})
		}
	}
	slices.SortFunc(l, func(a, b told) int { return a.page - b.page })
	return l
}

// set is what Set is to answer, and to do.
func (x both) set(frame, pid, page int) api.Errno {
	its := owner{pid, page}
	switch {
	case !x.has(frame), !its.may():
		return api.ErrArg
	case x.row[frame] != owner{}:
		return api.ErrBusy
	case slices.Contains(x.row, its):
		return api.ErrTwice
	}
	x.row[frame] = its
	return api.OK
}

// clear is what Clear is to answer, and to do.
func (x both) clear(frame int) api.Errno {
	switch {
	case !x.has(frame):
		return api.ErrArg
	case x.row[frame] == owner{}:
		return api.ErrNone
	}
	x.row[frame] = owner{}
	return api.OK
}

// holdSet sets the frame in the map, and in the row, and tells what was answered.
func (x both) holdSet(t *testing.T, frame, pid, page int) api.Errno {
	t.Helper()
	err := x.set(frame, pid, page)
	if e := x.m.Set(frame, pid, page); e != err {
		t.Errorf("Set(%d, %d, %d): error %d, not %d", frame, pid, page, e, err)
	}
	return err
}

// holdClear clears the frame in the map, and in the row, and tells what was answered.
func (x both) holdClear(t *testing.T, frame int) api.Errno {
	t.Helper()
	err := x.clear(frame)
	if e := x.m.Clear(frame); e != err {
		t.Errorf("Clear(%d): error %d, not %d", frame, e, err)
	}
	return err
}

// wantSet sets the frame, and holds the answer against the error that it is to be.
func (x both) wantSet(t *testing.T, frame, pid, page int, err api.Errno) {
	t.Helper()
	if e := x.holdSet(t, frame, pid, page); e != err {
		t.Errorf("Set(%d, %d, %d) was to be told the error %d, not %d", frame, pid, page, err, e)
	}
}

// wantClear clears the frame, and holds the answer against the error that it is to be.
func (x both) wantClear(t *testing.T, frame int, err api.Errno) {
	t.Helper()
	if e := x.holdClear(t, frame); e != err {
		t.Errorf("Clear(%d) was to be told the error %d, not %d", frame, err, e)
	}
}

// wantGet holds what Get answers against whose the frame is to be.
func wantGet(t *testing.T, what string, m *rmap.Map, frame int, o owner) {
	t.Helper()
	pid, page, ok := m.Get(frame)
	if pid != o.pid || page != o.page || ok != (o != owner{}) {
		t.Errorf("%s: Get(%d): %d, %d, %t; not %d, %d", what, frame, pid, page, ok, o.pid, o.page)
	}
}

// collect is what such a function tells.
func collect(of func(func(int, int) bool)) []told {
	var l []told
	for page, frame := range of {
		l = append(l, told{page, frame})
	}
	return l
}

// wantOf holds what Of tells against what it is to tell.
func wantOf(t *testing.T, what string, m *rmap.Map, pid int, want ...told) {
	t.Helper()
	of := m.Of(pid)
	if of == nil {
		t.Fatalf("%s: Of(%d) is nil", what, pid)
	}
	if got := collect(of); !slices.Equal(got, want) {
		t.Errorf("%s: Of(%d): %v, not %v", what, pid, got, want)
	}
}

// want holds all that the map tells against its row.
func (x both) want(t *testing.T, what string) {
	t.Helper()
	if x.m == nil {
		t.Fatalf("%s: no map", what)
	}
	if got := x.m.Frames(); got != len(x.row) {
		t.Fatalf("%s: %d frames, not %d", what, got, len(x.row))
	}
	for frame, o := range x.row {
		wantGet(t, what, x.m, frame, o)
	}
	for _, frame := range append(frames, len(x.row), len(x.row)+1) {
		wantGet(t, what, x.m, frame, x.whose(frame))
	}
	for _, pid := range pids {
		wantOf(t, what, x.m, pid, x.of(pid)...)
	}
}

// copied is a copy of the map, and of the row.
func (x both) copied(t *testing.T) both {
	t.Helper()
	y := both{x.m.Copy(), slices.Clone(x.row)}
	if y.m == x.m {
		t.Fatal("Copy is not another one")
	}
	y.want(t, "a copy")
	return y
}

// clearAll clears what is somebody's.
func (x both) clearAll(t *testing.T) {
	t.Helper()
	for frame, o := range x.row {
		if o != (owner{}) {
			x.wantClear(t, frame, api.OK)
		}
	}
}

func TestExamples(t *testing.T) {
	m := rmap.New(4)
	if e := m.Set(2, 1, 7); e != api.OK {
		t.Errorf("Set(2, 1, 7): error %d", e)
	}
	if pid, page, ok := m.Get(2); pid != 1 || page != 7 || !ok {
		t.Errorf("Get(2): %d, %d, %t", pid, page, ok)
	}
	if e := m.Set(2, 1, 8); e != api.ErrBusy {
		t.Errorf("Set(2, 1, 8): error %d", e)
	}
	if e := m.Set(3, 1, 7); e != api.ErrTwice {
		t.Errorf("Set(3, 1, 7): error %d", e)
	}
	both{m, []owner{{}, {}, {1, 7}, {}}}.want(t, "the examples")
}

func TestP15_1New(t *testing.T) {
	for _, x := range []struct{ frames, many int }{
		{math.MinInt, 0}, {math.MinInt + 1, 0}, {-1 << 32, 0}, {1 - 1<<32, 0}, {-1024, 0}, {-2, 0}, {-1, 0},
		{0, 0}, {1, 1}, {2, 2}, {3, 3}, {128, 128}, {1022, 1022}, {1023, 1023}, {1024, 1024},
		{1025, 1024}, {1026, 1024}, {2048, 1024}, {1 << 16, 1024}, {1 << 32, 1024}, {1<<32 + 1, 1024}, {math.MaxInt - 1, 1024}, {math.MaxInt, 1024},
	} {
		both{rmap.New(x.frames), make([]owner, x.many)}.want(t, "New")
	}
}

// As many frames as there are said to be can be had, the last one too, and no more.
func TestP15_1NewAndLastFrame(t *testing.T) {
	for _, n := range []int{math.MinInt, -1, 0, 1, 2, 3, 1023, 1024, 1025, math.MaxInt} {
		x := both{rmap.New(n), make([]owner, min(max(n, 0), maxPlaces))}
		many := len(x.row)
		x.wantSet(t, many, 1, 0, api.ErrArg)
		x.wantClear(t, many, api.ErrArg)
		x.want(t, "a frame too many")
		if many == 0 {
			continue
		}
		x.wantSet(t, many-1, 1, 1, api.OK)
		x.want(t, "the last frame")
		x.wantClear(t, many-1, api.OK)
		x.want(t, "the last frame cleared")
	}
}

// Maps of one making know nothing of each other.
func TestP15_1NewAgain(t *testing.T) {
	x, y := made(t, 3), made(t, 3)
	x.wantSet(t, 1, 1, 7, api.OK)
	y.want(t, "another map")
	y.wantSet(t, 0, 1, 7, api.OK)
	y.wantSet(t, 1, 2, 7, api.OK)
	x.want(t, "the first map")
	x.wantClear(t, 1, api.OK)
	y.want(t, "another map")
	made(t, 3)
}

// A map without frames is one that is there.
func TestP15_1NoFrames(t *testing.T) {
	for _, n := range []int{math.MinInt, -1, 0} {
		x := both{rmap.New(n), nil}
		for _, y := range []both{x, x.copied(t), x.copied(t).copied(t)} {
			for _, frame := range frames {
				y.wantSet(t, frame, 1, 7, api.ErrArg)
				y.wantClear(t, frame, api.ErrArg)
			}
			y.want(t, "no frames")
		}
	}
}

func TestP15_2Set(t *testing.T) {
	x := made(t, 4)
	x.wantSet(t, 2, 1, 7, api.OK)
	x.want(t, "a page")
	x.wantSet(t, 3, 2, 7, api.OK)
	x.want(t, "the same page of another process")
	x.wantSet(t, 0, 1, 8, api.OK)
	x.want(t, "another page of the same process")
	x.wantSet(t, 1, 8, 1, api.OK)
	x.want(t, "all frames")
}

// Each process may have each page, the first ones and the last ones too.
func TestP15_2SetOfAllPages(t *testing.T) {
	x := made(t, 3)
	for pid := 1; pid <= maxProcs; pid++ {
		for page := range maxPages {
			frame := (pid + page) % 3
			x.wantSet(t, frame, pid, page, api.OK)
			wantGet(t, "Set", x.m, frame, owner{pid, page})
			if page%100 == 23 {
				x.want(t, "one page")
			}
			x.wantClear(t, frame, api.OK)
		}
		x.want(t, "no page")
	}
}

// What Set answers of each frame, pid and page, those that may be and others; and what is then.
func TestP15_2SetOfAll(t *testing.T) {
	for _, x := range []both{made(t, 0), made(t, 1), made(t, 5), some(t), made(t, 1024)} {
		for _, frame := range append(frames, len(x.row), len(x.row)+1) {
			for _, pid := range pids {
				for _, page := range pages {
					if x.holdSet(t, frame, pid, page) == api.OK {
						wantGet(t, "Set", x.m, frame, owner{pid, page})
						x.wantClear(t, frame, api.OK)
					}
				}
			}
			x.want(t, "what was refused, or cleared")
		}
	}
}

func TestP15_2WrongFrames(t *testing.T) {
	for _, frame := range []int{math.MinInt, math.MinInt + 2, -1 << 32, -2, -1, 8, 9, 1024, 1 << 32, 1<<32 + 1, 1 << 62, math.MaxInt} {
		x := some(t)
		x.wantSet(t, frame, 1, 3, api.ErrArg)
		x.wantSet(t, frame, 1, 7, api.ErrArg) // that page has a frame, too
		x.wantClear(t, frame, api.ErrArg)
		x.want(t, "a wrong frame")
		x.wantSet(t, 1, 1, 3, api.OK) // what was refused was not kept
		x.want(t, "a frame")
	}
}

func TestP15_2WrongPids(t *testing.T) {
	for _, pid := range []int{math.MinInt, math.MinInt + 1, -1 << 32, 1 - 1<<32, -255, -1, 0, 9, 10, 16, 17, 257, 1 << 32, 1<<32 + 1, math.MaxInt} {
		x := some(t)
		for _, page := range []int{0, 3, 7, 1023} {
			x.wantSet(t, 1, pid, page, api.ErrArg)
			x.wantSet(t, 2, pid, page, api.ErrArg) // that frame is somebody's, too
		}
		x.want(t, "a wrong pid")
		wantOf(t, "a wrong pid", x.m, pid)
		x.wantSet(t, 1, 1, 3, api.OK)
		x.want(t, "a pid")
	}
}

func TestP15_2WrongPages(t *testing.T) {
	for _, page := range []int{math.MinInt, math.MinInt + 7, -1 << 32, 7 - 1<<32, -1024, -1017, -1, 1024, 1025, 1031, 2048, 1<<16 + 7, 1 << 32, 1<<32 + 7, math.MaxInt} {
		x := some(t)
		for _, pid := range []int{1, 2, 3, 8} {
			x.wantSet(t, 1, pid, page, api.ErrArg)
			x.wantSet(t, 2, pid, page, api.ErrArg) // that frame is somebody's, too
		}
		x.want(t, "a wrong page")
		x.wantSet(t, 1, 1, 3, api.OK)
		x.want(t, "a page")
	}
}

// Where several errors fit, it is the first one: ErrArg, ErrBusy, ErrTwice.
func TestP15_2FirstError(t *testing.T) {
	x := some(t)
	x.wantSet(t, 2, 1, 1024, api.ErrArg)
	x.wantSet(t, 2, 9, 7, api.ErrArg)
	x.wantSet(t, 2, 0, -1, api.ErrArg)
	x.wantSet(t, 8, 1, 7, api.ErrArg)
	x.wantSet(t, -1, 1, 7, api.ErrArg)
	x.wantSet(t, 2, 1, 7, api.ErrBusy) // that page's already
	x.wantSet(t, 2, 1, 0, api.ErrBusy) // that page has another one
	x.wantSet(t, 3, 1, 7, api.ErrBusy) // somebody else's, and that page has another one
	x.wantSet(t, 7, 1, 1023, api.ErrBusy)
	x.wantSet(t, 0, 8, 1023, api.ErrBusy)
	x.wantSet(t, 1, 1, 7, api.ErrTwice)
	x.wantSet(t, 1, 1, 0, api.ErrTwice)
	x.wantSet(t, 4, 8, 1023, api.ErrTwice)
	x.wantSet(t, 5, 2, 7, api.ErrTwice)
	x.want(t, "what was refused")
}

// A frame that is somebody's is refused to each page, of him and of others.
func TestP15_2Busy(t *testing.T) {
	for _, frame := range []int{0, 2, 3, 6, 7} {
		x := some(t)
		for pid := 1; pid <= maxProcs; pid++ {
			for page := range maxPages {
				x.wantSet(t, frame, pid, page, api.ErrBusy)
			}
		}
		x.want(t, "a frame that is somebody's")
	}
}

// A page that has a frame, each frame's in turn, is refused each frame that is nobody's.
func TestP15_2Twice(t *testing.T) {
	x := some(t)
	for _, o := range x.row {
		if o == (owner{}) {
			continue
		}
		for _, frame := range []int{1, 4, 5} {
			x.wantSet(t, frame, o.pid, o.page, api.ErrTwice)
		}
		x.want(t, "a page that has a frame")
	}
}

// Pages whose numbers are near, or alike when put together, are others.
func TestP15_2OtherPages(t *testing.T) {
	l := []owner{
		{1, 0}, {1, 1}, {2, 0}, {2, 1}, {1, 2}, {1, 1022}, {1, 1023}, {2, 1022}, {2, 1023}, {3, 0}, {3, 1},
		{8, 0}, {8, 1}, {1, 8}, {8, 8}, {7, 1023}, {8, 1022}, {8, 1023}, {4, 512}, {5, 256}, {6, 128}, {7, 64}, {8, 32}, {1, 256}, {1, 512}, {3, 3},
	}
	x := made(t, len(l))
	for i, o := range l {
		x.wantSet(t, i, o.pid, o.page, api.OK)
		x.want(t, "another page")
	}
	for i := range l {
		i = (i*7 + 3) % len(l)
		x.wantClear(t, i, api.OK)
		x.want(t, "a page without its frame")
	}
}

func TestP15_2Clear(t *testing.T) {
	x := some(t)
	for _, frame := range []int{1, 4, 5} {
		x.wantClear(t, frame, api.ErrNone) // nobody's
	}
	x.want(t, "frames that are nobody's")
	for _, frame := range []int{2, 7, 0, 3, 6} {
		x.wantClear(t, frame, api.OK)
		x.want(t, "a frame cleared")
		x.wantClear(t, frame, api.ErrNone)
		x.want(t, "a frame cleared twice")
	}
	both{x.m, make([]owner, 8)}.want(t, "all frames cleared")
}

// What Clear answers of each frame, those that there are and others.
func TestP15_2ClearOfAll(t *testing.T) {
	for _, x := range []both{made(t, 0), made(t, 1), made(t, 5), some(t), made(t, 1024)} {
		for range 2 {
			for _, frame := range append(frames, len(x.row), len(x.row)+1) {
				x.holdClear(t, frame)
			}
			x.want(t, "Clear")
		}
	}
}

// A frame and a page that were cleared may go together again, and each with another one.
func TestP15_2SetAgain(t *testing.T) {
	x := some(t)
	x.wantClear(t, 2, api.OK)
	x.wantSet(t, 2, 1, 7, api.OK)
	x.want(t, "the same again")
	x.wantClear(t, 2, api.OK)
	x.wantSet(t, 5, 1, 7, api.OK) // the page has another frame
	x.want(t, "another frame")
	x.wantSet(t, 2, 1, 7, api.ErrTwice)
	x.wantSet(t, 2, 3, 9, api.OK) // the frame is another page's
	x.want(t, "another page")
	x.wantClear(t, 5, api.OK)
	x.wantSet(t, 5, 3, 9, api.ErrTwice)
	x.wantClear(t, 2, api.OK)
	x.wantSet(t, 5, 3, 9, api.OK)
	x.wantSet(t, 2, 1, 7, api.OK)
	x.want(t, "each with another one")
	for range 3 {
		x.wantClear(t, 7, api.OK)
		x.wantSet(t, 7, 8, 1023, api.OK)
		x.wantSet(t, 7, 8, 1023, api.ErrBusy)
	}
	x.want(t, "again and again")
}

// All frames are given to pages, and cleared in another order.
func TestP15_2AllFrames(t *testing.T) {
	for _, many := range []int{1, 2, 7, 128, 1023, 1024} {
		x := made(t, many)
		for i := range many {
			frame := i
			if many%389 > 0 {
				frame = i * 389 % many
			}
			x.wantSet(t, frame, 1+i%maxProcs, i*7%maxPages, api.OK)
			if i%97 == 0 {
				x.want(t, "another frame")
			}
		}
		x.want(t, "all frames")
		for frame := range many {
			x.wantSet(t, frame, 1+frame%maxProcs, 1, api.ErrBusy)
		}
		for frame := many - 1; frame >= 0; frame-- {
			x.wantClear(t, frame, api.OK)
			if frame%97 == 0 {
				x.want(t, "one frame less")
			}
		}
		x.want(t, "no frames")
	}
}

// One process may have all frames, as many as it has pages.
func TestP15_2AllFramesOfOne(t *testing.T) {
	for _, pid := range []int{1, 8} {
		x := made(t, maxPlaces)
		for page := range maxPages {
			x.wantSet(t, page*389%maxPlaces, pid, 1023-page, api.OK)
		}
		x.want(t, "all frames")
		n := 0
		for page, frame := range x.m.Of(pid) {
			if page != n || frame != (1023-page)*389%maxPlaces {
				t.Errorf("Of tells %d, %d", page, frame)
			}
			n++
		}
		if n != 1024 {
			t.Errorf("Of tells %d pages", n)
		}
		x.clearAll(t)
		x.want(t, "no frames")
	}
}

// A frame is one page's, and a page has one frame: whatever is called, as in a plain row.
func TestP15_2ManyCalls(t *testing.T) {
	c := chance(15)
	counts := map[api.Errno]int{}
	for _, many := range []int{0, 1, 2, 5, 40, 1024} {
		for _, most := range []int{2, 12, 1100} {
			x := made(t, many)
			for i := range 2000 {
				frame := c.below(many+2) - 1
				if c.below(3) == 0 {
					counts[x.holdClear(t, frame)]++
				} else {
					counts[x.holdSet(t, frame, c.below(9), c.below(most))]++
				}
				wantGet(t, "many calls", x.m, frame, x.whose(frame))
				if i%50 == 0 {
					x.want(t, "many calls")
				}
			}
			x.want(t, "many calls")
		}
	}
	for _, e := range []api.Errno{api.OK, api.ErrArg, api.ErrBusy, api.ErrTwice, api.ErrNone} {
		if counts[e] < 100 {
			t.Errorf("the error %d was to be told only %d times", e, counts[e])
		}
	}
}

// chance are numbers that look like chance, and are the same each time.
type chance uint64

// below is the next number, from 0 on, below n.
func (c *chance) below(n int) int {
	*c = *c*6364136223846793005 + 1442695040888963407
	return int(uint64(*c)>>33) % n
}

func TestP15_3Get(t *testing.T) {
	x := some(t)
	for _, c := range []struct {
		frame int
		its   owner
	}{
		{math.MinInt, owner{}}, {-1 << 32, owner{}}, {-1, owner{}}, {0, owner{1, 1023}}, {1, owner{}}, {2, owner{1, 7}}, {3, owner{2, 7}}, {4, owner{}},
		{5, owner{}}, {6, owner{1, 0}}, {7, owner{8, 1023}}, {8, owner{}}, {9, owner{}}, {1024, owner{}}, {1 << 32, owner{}}, {1<<32 + 2, owner{}}, {math.MaxInt, owner{}},
	} {
		wantGet(t, "Get", x.m, c.frame, c.its)
	}
	x.wantClear(t, 2, api.OK)
	wantGet(t, "Clear", x.m, 2, owner{})
	x.wantSet(t, 2, 1, 9, api.OK)
	wantGet(t, "Set", x.m, 2, owner{1, 9})
}

func TestP15_3Of(t *testing.T) {
	x := some(t)
	wantOf(t, "the process 1", x.m, 1, told{0, 6}, told{7, 2}, told{1023, 0})
	wantOf(t, "the process 2", x.m, 2, told{7, 3})
	wantOf(t, "the last process", x.m, 8, told{1023, 7})
	for _, pid := range []int{3, 4, 5, 6, 7} {
		wantOf(t, "a process that has none", x.m, pid)
	}
	for _, pid := range []int{math.MinInt, math.MinInt + 1, -1 << 32, 1 - 1<<32, -1, 0, 9, 257, 1 << 32, 1<<32 + 1, math.MaxInt} {
		wantOf(t, "a pid that may not be", x.m, pid)
	}
	x.wantClear(t, 2, api.OK)
	wantOf(t, "a frame less", x.m, 1, told{0, 6}, told{1023, 0})
	x.clearAll(t)
	wantOf(t, "no frames", x.m, 1)
}

// Pages rise, in whatever order they and their frames came.
func TestP15_3OfRises(t *testing.T) {
	x, c := made(t, 256), chance(3)
	for range 3000 {
		x.holdSet(t, c.below(256), 1+c.below(8), c.below(1024))
		x.holdClear(t, c.below(256))
	}
	for pid := 1; pid <= maxProcs; pid++ {
		last, many := -1, 0
		for page, frame := range x.m.Of(pid) {
			if page <= last || x.row[frame] != (owner{pid, page}) {
				t.Fatalf("Of(%d) tells %d, %d behind %d", pid, page, frame, last)
			}
			last = page
			many++
		}
		if many < 3 || many != len(x.of(pid)) {
			t.Errorf("Of(%d) tells %d pages", pid, many)
		}
	}
}

func TestP15_3OfTwice(t *testing.T) {
	x := some(t)
	of, none := x.m.Of(1), x.m.Of(3)
	for range 3 {
		if got := collect(of); !slices.Equal(got, []told{{0, 6}, {7, 2}, {1023, 0}}) {
			t.Errorf("Of: %v", got)
		}
		if got := collect(none); len(got) != 0 {
			t.Errorf("Of a process that has none: %v", got)
		}
	}
	// They are told as they are then, though they were asked for before.
	x.wantClear(t, 6, api.OK)
	x.wantClear(t, 2, api.OK)
	x.wantSet(t, 6, 1, 7, api.OK)
	x.wantSet(t, 5, 1, 3, api.OK)
	x.wantSet(t, 2, 3, 3, api.OK)
	if got := collect(of); !slices.Equal(got, []told{{3, 5}, {7, 6}, {1023, 0}}) {
		t.Errorf("Of behind other calls: %v", got)
	}
	if got := collect(none); !slices.Equal(got, []told{{3, 2}}) {
		t.Errorf("Of a process that has one now: %v", got)
	}
	x.clearAll(t)
	if got := collect(of); len(got) != 0 {
		t.Errorf("Of none: %v", got)
	}
}

func TestP15_3OfBrokenOff(t *testing.T) {
	x := some(t)
	all := x.of(1)
	of := x.m.Of(1)
	for many := 1; many <= len(all); many++ {
		var got []told
		of(func(page, frame int) bool {
			got = append(got, told{page, frame})
			return len(got) < many
		})
		if !slices.Equal(got, all[:many]) {
			t.Errorf("broken off behind %d: %v", many, got)
		}
	}
	for page, frame := range of {
		if page != 0 || frame != 6 {
			t.Errorf("the first one: %d, %d", page, frame)
		}
		break
	}
	if got := collect(of); !slices.Equal(got, all) {
		t.Errorf("told again: %v", got)
	}
	x.want(t, "broken off")
}

// Whoever is told a page may change the map: each page is told as it is when it is its turn.
func TestP15_3OfChangedMeanwhile(t *testing.T) {
	for _, c := range []struct {
		what   string
		change func(x both)
		want   []told
	}{
		{"none", func(x both) {}, []told{{0, 6}, {7, 2}, {1023, 0}}},
		{"the told one goes", func(x both) { x.wantClear(t, 6, api.OK) }, []told{{0, 6}, {7, 2}, {1023, 0}}},
		{"the next one goes", func(x both) { x.wantClear(t, 2, api.OK) }, []told{{0, 6}, {1023, 0}}},
		{"the last one goes", func(x both) { x.wantClear(t, 0, api.OK) }, []told{{0, 6}, {7, 2}}},
		{"all go", func(x both) { x.clearAll(t) }, []told{{0, 6}}},
		{"one comes behind", func(x both) { x.wantSet(t, 5, 1, 1, api.OK) }, []told{{0, 6}, {1, 5}, {7, 2}, {1023, 0}}},
		{"one comes last", func(x both) { x.wantSet(t, 5, 1, 1022, api.OK) }, []told{{0, 6}, {7, 2}, {1022, 5}, {1023, 0}}},
		{"the next one has another frame", func(x both) {
			x.wantClear(t, 2, api.OK)
			x.wantSet(t, 1, 1, 7, api.OK)
		}, []told{{0, 6}, {7, 1}, {1023, 0}}},
		{"the told one has another frame", func(x both) {
			x.wantClear(t, 6, api.OK)
			x.wantSet(t, 5, 1, 0, api.OK)
		}, []told{{0, 6}, {7, 2}, {1023, 0}}},
		{"the frame has another page", func(x both) {
			x.wantClear(t, 6, api.OK)
			x.wantSet(t, 6, 1, 9, api.OK)
		}, []told{{0, 6}, {7, 2}, {9, 6}, {1023, 0}}},
		{"another process'", func(x both) { x.wantSet(t, 5, 2, 1, api.OK) }, []told{{0, 6}, {7, 2}, {1023, 0}}},
	} {
		x := some(t)
		var got []told
		for page, frame := range x.m.Of(1) {
			if len(got) == 0 {
				c.change(x)
			}
			got = append(got, told{page, frame})
		}
		if !slices.Equal(got, c.want) {
			t.Errorf("%s: %v, not %v", c.what, got, c.want)
		}
		x.want(t, c.what)
	}
}

// Each page that is told is cleared, or has its next page set: the telling ends with the last page.
func TestP15_3OfEnds(t *testing.T) {
	x := made(t, maxPlaces)
	x.wantSet(t, 0, 4, 0, api.OK)
	n := 0
	for page, frame := range x.m.Of(4) {
		if page != n || frame != n {
			t.Fatalf("told %d, %d behind %d", page, frame, n-1)
		}
		n++
		x.holdSet(t, n, 4, n)
	}
	if n != maxPages {
		t.Errorf("%d pages told", n)
	}
	x.want(t, "each page sets the next one")
	for page, frame := range x.m.Of(4) {
		n--
		x.wantClear(t, frame, api.OK)
		if page != frame {
			t.Errorf("told %d, %d", page, frame)
		}
	}
	if n != 0 {
		t.Errorf("%d pages not told", n)
	}
	x.want(t, "each page clears itself")
}

// An Of within an Of, of the same process and of another one, tells what is there then.
func TestP15_3OfWithinOf(t *testing.T) {
	x := some(t)
	for range x.m.Of(1) {
		wantOf(t, "within", x.m, 1, x.of(1)...)
		wantOf(t, "within", x.m, 2, x.of(2)...)
		for page, frame := range x.m.Of(8) {
			x.wantClear(t, frame, api.OK)
			x.wantSet(t, frame, 7, page, api.OK)
		}
	}
	x.want(t, "Of within Of")
}

// What is looked at is not changed by it.
func TestP15_3LooksChangeNothing(t *testing.T) {
	x := some(t)
	for _, n := range slices.Concat(frames, pids, pages) {
		x.m.Get(n)
		collect(x.m.Of(n))
	}
	x.m.Frames()
	x.m.Copy()
	x.want(t, "looks")
}

func TestP15_1Copy(t *testing.T) {
	x := some(t)
	y := x.copied(t)
	x.wantClear(t, 2, api.OK)
	x.wantSet(t, 1, 5, 5, api.OK)
	x.wantSet(t, 4, 1, 7, api.OK)
	y.want(t, "the copy, behind changes of the first one")
	y.wantSet(t, 1, 5, 5, api.OK)
	y.wantClear(t, 7, api.OK)
	y.wantSet(t, 4, 1, 7, api.ErrTwice)
	y.wantSet(t, 4, 8, 1023, api.OK)
	x.want(t, "the first one, behind changes of the copy")
	z := y.copied(t)
	y.clearAll(t)
	x.clearAll(t)
	z.want(t, "a copy's copy")
	z.wantSet(t, 5, 1, 7, api.ErrTwice)
	z.wantSet(t, 2, 1, 8, api.ErrBusy)
	z.clearAll(t)
	z.want(t, "a copy's copy that was cleared")
}

// A copy of each filling, the empty one and the full one too.
func TestP15_1CopyOfAll(t *testing.T) {
	for _, many := range []int{0, 1, 3, 1024} {
		for _, had := range []int{0, many / 2, many} {
			x := made(t, many)
			for i := range had {
				x.wantSet(t, many-1-i, 1+i%maxProcs, i, api.OK)
			}
			y := x.copied(t)
			x.clearAll(t)
			y.want(t, "a copy, behind what was cleared")
			x.want(t, "what was cleared")
			for frame := range y.row {
				y.holdSet(t, frame, 8, frame)
				y.holdSet(t, frame, 7, frame)
			}
			x.want(t, "what was copied")
			y.want(t, "a copy that was filled")
		}
	}
}

// What a map's Of tells while its copy changes, and the other way round.
func TestP15_1CopyToldMeanwhile(t *testing.T) {
	x := some(t)
	y := x.copied(t)
	of, its := x.m.Of(1), y.m.Of(1)
	for range of {
		y.clearAll(t)
	}
	x.want(t, "the first one")
	if got := collect(its); len(got) != 0 {
		t.Errorf("the copy's: %v", got)
	}
	if got := collect(of); !slices.Equal(got, x.of(1)) {
		t.Errorf("the first one's: %v", got)
	}
}

func TestNotThere(t *testing.T) {
	for _, m := range []*rmap.Map{nil, {}, new(rmap.Map)} {
		for range 2 {
			for _, frame := range frames {
				for _, pid := range pids {
					for _, page := range pages {
						if e := m.Set(frame, pid, page); e != api.ErrNil {
							t.Errorf("Set(%d, %d, %d): error %d", frame, pid, page, e)
						}
					}
				}
				if e := m.Clear(frame); e != api.ErrNil {
					t.Errorf("Clear(%d): error %d", frame, e)
				}
				wantGet(t, "not there", m, frame, owner{})
			}
			for _, pid := range pids {
				wantOf(t, "not there", m, pid)
			}
			if m.Frames() != 0 {
				t.Errorf("%d frames", m.Frames())
			}
			if m.Copy() != nil {
				t.Error("Copy of what is not there")
			}
		}
	}
}
