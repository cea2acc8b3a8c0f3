package slots_test

import (
	"math"
	"slices"
	"testing"

	"byre/api"
	"byre/slots"
)

// What the chapter names, in its own numbers.
const (
	maxSlots = 1024
	maxPages = 1024
	maxProcs = 8
)

// numbers are slots, of which most have but the smaller ones.
var numbers = []int{
	math.MinInt, math.MinInt + 1, math.MinInt + 2, -1 << 32, 1 - 1<<32, -1024, -4, -2, -1,
	0, 1, 2, 3, 4, 5, 7, 8, 9, 63, 64, 255, 256, 511, 512, 1022, 1023,
	1024, 1025, 2047, 2048, 1 << 16, 1 << 32, 1<<32 + 1, 1<<32 + 2, 1 << 62, 1<<62 + 2, math.MaxInt - 1, math.MaxInt,
}

// pids are pids, those that may be and others.
var pids = []int{
	math.MinInt, math.MinInt + 1, math.MinInt + 8, -1 << 32, 1 - 1<<32, -256, -255, -8, -7, -1, 0,
	1, 2, 3, 4, 5, 6, 7, 8,
	9, 10, 16, 17, 255, 256, 257, 1 << 16, 1<<16 + 1, 1 << 32, 1<<32 + 1, 1 << 62, 1<<62 + 1, math.MaxInt - 1, math.MaxInt,
}

// pages are pages, those that may be and others.
var pages = []int{
	math.MinInt, math.MinInt + 1, math.MinInt + 7, -1 << 32, 7 - 1<<32, -1024, -1023, -7, -2, -1,
	0, 1, 2, 5, 6, 7, 8, 31, 32, 255, 256, 511, 512, 1022, 1023,
	1024, 1025, 1031, 2047, 2048, 1 << 16, 1<<16 + 7, 1 << 32, 1<<32 + 7, 1 << 62, 1<<62 + 7, math.MaxInt - 1, math.MaxInt,
}

// owner is a page of a process; a zero one is nobody's.
type owner struct{ pid, page int }

// may tells whether there may be the process and the page.
func (o owner) may() bool {
	return o.pid > 0 && o.pid < 9 && o.page > -1 && o.page < 1024
}

// both are slots and a plain row of owners, one a slot, that is to be as they are.
type both struct {
	s   *slots.Slots
	row []owner
}

// made is so many slots, and their row.
func made(t *testing.T, many int) both {
	t.Helper()
	x := both{slots.New(many), make([]owner, many)}
	x.want(t, "New")
	return x
}

// full is so many slots, all of them taken, and their row.
func full(t *testing.T, many int) both {
	t.Helper()
	x := made(t, many)
	for slot := range many {
		x.wantTake(t, 1+slot%maxProcs, slot*7%maxPages, slot, api.OK)
	}
	x.want(t, "all slots")
	return x
}

// some is eight slots, of which 0, 2, 3, 5 and 7 are taken, and 1, 4 and 6 are free again.
func some(t *testing.T) both {
	t.Helper()
	x := made(t, 8)
	for slot, o := range []owner{{1, 1023}, {4, 4}, {1, 7}, {2, 7}, {5, 5}, {1, 7}, {6, 6}, {8, 0}} {
		x.wantTake(t, o.pid, o.page, slot, api.OK)
	}
	for _, slot := range []int{6, 1, 4} {
		x.wantFree(t, slot, api.OK)
	}
	x.want(t, "some slots")
	return x
}

// has tells whether there is such a slot.
func (x both) has(slot int) bool {
	return slot > -1 && slot < len(x.row)
}

// whose is whose the slot is to be.
func (x both) whose(slot int) owner {
	if !x.has(slot) {
		return owner{}
	}
	return x.row[slot]
}

// all is what All is to tell: what the row says is taken.
func (x both) all() []int {
	var l []int
	for slot, o := range x.row {
		if o.pid > 0 {
			l = append(l, slot)
		}
	}
	return l
}

// take is what Take is to answer, and to do.
func (x both) take(pid, page int) (int, api.Errno) {
	its := owner{pid, page}
	if !its.may() {
		return 0, api.ErrArg
	}
	for slot, o := range x.row {
		if o.pid == 0 {
			x.row[slot] = its
			return slot, api.OK
		}
	}
	return 0, api.ErrFull
}

// free is what Free is to answer, and to do.
func (x both) free(slot int) api.Errno {
	switch {
	case !x.has(slot):
		return api.ErrArg
	case x.row[slot].pid == 0:
		return api.ErrNone
	}
	x.row[slot] = owner{}
	return api.OK
}

// holdTake takes one of the slots, and one of the row, and tells what was answered.
func (x both) holdTake(t *testing.T, pid, page int) (int, api.Errno) {
	t.Helper()
	want, err := x.take(pid, page)
	if slot, e := x.s.Take(pid, page); slot != want || e != err {
		t.Errorf("Take(%d, %d): %d, error %d; not %d, %d", pid, page, slot, e, want, err)
	}
	return want, err
}

// holdFree frees the slot, and that of the row, and tells what was answered.
func (x both) holdFree(t *testing.T, slot int) api.Errno {
	t.Helper()
	err := x.free(slot)
	if e := x.s.Free(slot); e != err {
		t.Errorf("Free(%d): error %d, not %d", slot, e, err)
	}
	return err
}

// wantTake takes a slot, and holds the answer against what it is to be.
func (x both) wantTake(t *testing.T, pid, page, want int, err api.Errno) {
	t.Helper()
	if slot, e := x.holdTake(t, pid, page); slot != want || e != err {
		t.Errorf("Take(%d, %d) was to be told %d, error %d; not %d, %d", pid, page, want, err, slot, e)
	}
}

// wantFree frees the slot, and holds the answer against the error that it is to be.
func (x both) wantFree(t *testing.T, slot int, err api.Errno) {
	t.Helper()
	if e := x.holdFree(t, slot); e != err {
		t.Errorf("Free(%d) was to be told the error %d, not %d", slot, err, e)
	}
}

// wantOwner holds what Owner answers against whose the slot is to be.
func wantOwner(t *testing.T, what string, s *slots.Slots, slot int, o owner) {
	t.Helper()
	pid, page, ok := s.Owner(slot)
	if pid != o.pid || page != o.page || ok != (o.pid > 0) {
		t.Errorf("%s: Owner(%d): %d, %d, %t; not %d, %d", what, slot, pid, page, ok, o.pid, o.page)
	}
}

// collect is what such a function tells.
func collect(all func(func(int) bool)) []int {
	var l []int
	for slot := range all {
		l = append(l, slot)
	}
	return l
}

// wantCounts holds the numbers of slots that there are, and that are taken, against the row.
func (x both) wantCounts(t *testing.T, what string) {
	t.Helper()
	if n, many := x.s.Len(), len(x.row); n != many {
		t.Fatalf("%s: %d slots, not %d", what, n, many)
	}
	if n, many := x.s.Used(), len(x.all()); n != many {
		t.Errorf("%s: %d slots are taken, not %d", what, n, many)
	}
}

// want holds all that the slots tell against their row.
func (x both) want(t *testing.T, what string) {
	t.Helper()
	if x.s == nil {
		t.Fatalf("%s: no slots", what)
	}
	x.wantCounts(t, what)
	for slot, o := range x.row {
		wantOwner(t, what, x.s, slot, o)
	}
	for _, slot := range append(numbers, len(x.row), len(x.row)+1) {
		wantOwner(t, what, x.s, slot, x.whose(slot))
	}
	all := x.s.All()
	if all == nil {
		t.Fatalf("%s: All is nil", what)
	}
	if got := collect(all); !slices.Equal(got, x.all()) {
		t.Errorf("%s: All: %v, not %v", what, got, x.all())
	}
}

// copied is a copy of the slots, and of the row.
func (x both) copied(t *testing.T) both {
	t.Helper()
	y := both{x.s.Copy(), slices.Clone(x.row)}
	if y.s == x.s {
		t.Fatal("Copy is not another one")
	}
	y.want(t, "a copy")
	return y
}

// freeAll frees what is taken.
func (x both) freeAll(t *testing.T) {
	t.Helper()
	for _, slot := range x.all() {
		x.wantFree(t, slot, api.OK)
	}
}

// chance are numbers that look like chance, and are the same each time.
type chance uint64

// below is the next number, from 0 on, below n.
func (c *chance) below(n int) int {
	*c = *c*6364136223846793005 + 1442695040888963407
	return int(uint64(*c)>>33) % n
}

func TestExamples(t *testing.T) {
	s := slots.New(2)
	for _, c := range []struct {
		pid, page, slot int
		err             api.Errno
	}{{1, 5, 0, api.OK}, {2, 5, 1, api.OK}, {1, 6, 0, api.ErrFull}} {
		if slot, e := s.Take(c.pid, c.page); slot != c.slot || e != c.err {
			t.Errorf("Take(%d, %d): %d, error %d", c.pid, c.page, slot, e)
		}
	}
	if e := s.Free(0); e != api.OK {
		t.Errorf("Free(0): error %d", e)
	}
	if slot, e := s.Take(3, 9); slot != 0 || e != api.OK {
		t.Errorf("Take(3, 9): %d, error %d", slot, e)
	}
	if pid, page, ok := s.Owner(0); pid != 3 || page != 9 || !ok {
		t.Errorf("Owner(0): %d, %d, %t", pid, page, ok)
	}
	both{s, []owner{{3, 9}, {2, 5}}}.want(t, "the examples")
}

func TestP16_1New(t *testing.T) {
	for _, x := range []struct{ n, many int }{
		{math.MinInt, 0}, {math.MinInt + 1, 0}, {-1 << 32, 0}, {1 - 1<<32, 0}, {-1024, 0}, {-2, 0}, {-1, 0},
		{0, 0}, {1, 1}, {2, 2}, {3, 3}, {128, 128}, {1022, 1022}, {1023, 1023}, {1024, 1024},
		{1025, 1024}, {1026, 1024}, {2048, 1024}, {1 << 16, 1024}, {1 << 32, 1024}, {1<<32 + 1, 1024}, {math.MaxInt - 1, 1024}, {math.MaxInt, 1024},
	} {
		both{slots.New(x.n), make([]owner, x.many)}.want(t, "New")
	}
}

// As many slots as there are said to be can be had, the last one too, and no more.
func TestP16_1NewAndLastSlot(t *testing.T) {
	for _, n := range []int{math.MinInt, -1, 0, 1, 2, 3, 1023, 1024, 1025, math.MaxInt} {
		x := both{slots.New(n), make([]owner, min(max(n, 0), maxSlots))}
		many := len(x.row)
		x.wantFree(t, many, api.ErrArg)
		for slot := range many {
			x.wantFree(t, slot, api.ErrNone)
			x.wantTake(t, 8, 1023-slot, slot, api.OK)
		}
		x.want(t, "the last slot")
		x.wantTake(t, 1, 1, 0, api.ErrFull)
		x.wantFree(t, many, api.ErrArg)
		x.want(t, "a slot too many")
		if many == 0 {
			continue
		}
		x.wantFree(t, many-1, api.OK)
		x.want(t, "the last slot freed")
		x.wantTake(t, 1, 1, many-1, api.OK)
		x.wantTake(t, 1, 1, 0, api.ErrFull)
		x.want(t, "the last slot again")
	}
}

// Slots of one making know nothing of each other.
func TestP16_1NewAgain(t *testing.T) {
	x, y := made(t, 3), made(t, 3)
	x.wantTake(t, 1, 7, 0, api.OK)
	x.wantTake(t, 1, 8, 1, api.OK)
	y.want(t, "other slots")
	y.wantFree(t, 0, api.ErrNone)
	y.wantTake(t, 2, 7, 0, api.OK)
	x.want(t, "the first slots")
	x.wantFree(t, 0, api.OK)
	y.want(t, "other slots")
	made(t, 3)
}

// Slots of which there are none are there.
func TestP16_1NoSlots(t *testing.T) {
	for _, n := range []int{math.MinInt, -1, 0} {
		x := both{slots.New(n), nil}
		for _, y := range []both{x, x.copied(t), x.copied(t).copied(t)} {
			y.wantTake(t, 1, 7, 0, api.ErrFull)
			y.wantTake(t, 8, 1023, 0, api.ErrFull)
			y.wantTake(t, 0, 7, 0, api.ErrArg)
			y.wantTake(t, 1, 1024, 0, api.ErrArg)
			for _, slot := range numbers {
				y.wantFree(t, slot, api.ErrArg)
			}
			y.want(t, "no slots")
		}
	}
}

// Len stays, Used goes up and down, and neither by what is refused.
func TestP16_1LenAndUsed(t *testing.T) {
	s := slots.New(3)
	want := func(what string, used int) {
		t.Helper()
		if n, many := s.Used(), s.Len(); n != used || many != 3 {
			t.Errorf("%s: %d of %d are taken, not %d of 3", what, n, many, used)
		}
	}
	want("New", 0)
	for i := range 3 {
		s.Take(1, 5)
		want("Take", i+1)
		s.Take(0, 5)
		want("Take of a wrong pid", i+1)
	}
	s.Take(1, 5)
	want("Take of one more", 3)
	s.Free(3)
	s.Free(-1)
	want("Free of none", 3)
	for i, slot := range []int{1, 0, 2} {
		s.Free(slot)
		want("Free", 2-i)
		s.Free(slot)
		want("Free twice", 2-i)
	}
	s.Take(8, 1023)
	want("Take again", 1)
}

func TestP16_1Copy(t *testing.T) {
	x := some(t)
	y := x.copied(t)
	x.wantFree(t, 2, api.OK)
	x.wantTake(t, 5, 5, 1, api.OK)
	x.wantTake(t, 4, 7, 2, api.OK)
	y.want(t, "the copy, behind changes of the first ones")
	y.wantFree(t, 7, api.OK)
	y.wantTake(t, 3, 3, 1, api.OK)
	y.wantTake(t, 8, 1023, 4, api.OK)
	x.want(t, "the first ones, behind changes of the copy")
	z := y.copied(t)
	y.freeAll(t)
	x.freeAll(t)
	z.want(t, "a copy's copy")
	z.wantTake(t, 2, 2, 6, api.OK)
	z.wantTake(t, 2, 2, 7, api.OK)
	z.wantTake(t, 2, 2, 0, api.ErrFull)
	x.want(t, "the first ones")
	y.want(t, "the copy")
	z.freeAll(t)
	z.want(t, "a copy's copy that was freed")
}

// A copy of each filling, the empty one and the full one too.
func TestP16_1CopyOfAll(t *testing.T) {
	for _, many := range []int{0, 1, 3, 1024} {
		for _, had := range []int{0, many / 2, many} {
			x := made(t, many)
			for i := range had {
				x.wantTake(t, 1+i%maxProcs, i, i, api.OK)
			}
			y := x.copied(t)
			x.freeAll(t)
			y.want(t, "a copy, behind what was freed")
			x.want(t, "what was freed")
			for i := range many + 1 {
				y.holdTake(t, 8, i%maxPages)
			}
			x.want(t, "what was copied")
			y.want(t, "a copy that was filled")
		}
	}
}

// What the slots' All tells while their copy changes, and the other way round.
func TestP16_1CopyToldMeanwhile(t *testing.T) {
	x := some(t)
	y := x.copied(t)
	all, its := x.s.All(), y.s.All()
	for range all {
		y.freeAll(t)
	}
	x.want(t, "the first ones")
	if got := collect(its); len(got) != 0 {
		t.Errorf("the copy's: %v", got)
	}
	if got := collect(all); !slices.Equal(got, []int{0, 2, 3, 5, 7}) {
		t.Errorf("the first ones': %v", got)
	}
}

func TestP16_2Take(t *testing.T) {
	x := made(t, 4)
	x.wantTake(t, 1, 7, 0, api.OK)
	x.want(t, "a page")
	x.wantTake(t, 2, 7, 1, api.OK)
	x.want(t, "the same page of another process")
	x.wantTake(t, 1, 8, 2, api.OK)
	x.want(t, "another page of the same process")
	x.wantTake(t, 8, 0, 3, api.OK)
	x.want(t, "all slots")
}

// Each process may have each page, the first ones and the last ones too.
func TestP16_2TakeOfAllPages(t *testing.T) {
	x := made(t, 3)
	x.wantTake(t, 1, 1, 0, api.OK)
	for pid := 1; pid <= maxProcs; pid++ {
		for page := range maxPages {
			x.wantTake(t, pid, page, 1, api.OK)
			wantOwner(t, "Take", x.s, 1, owner{pid, page})
			if page%100 == 23 {
				x.want(t, "one page")
			}
			x.wantFree(t, 1, api.OK)
		}
		x.want(t, "no page")
	}
}

// What Take answers of each pid and page, those that may be and others; and what is then.
func TestP16_2TakeOfAll(t *testing.T) {
	for _, x := range []both{made(t, 0), made(t, 1), made(t, 5), some(t), full(t, 3), made(t, 1024), full(t, 1024)} {
		for _, pid := range pids {
			for _, page := range pages {
				if slot, e := x.holdTake(t, pid, page); e == api.OK {
					wantOwner(t, "Take", x.s, slot, owner{pid, page})
					x.wantFree(t, slot, api.OK)
				}
			}
			x.wantCounts(t, "what was refused, or freed")
		}
		x.want(t, "what was refused, or freed")
	}
}

func TestP16_2WrongPids(t *testing.T) {
	for _, pid := range []int{math.MinInt, math.MinInt + 1, -1 << 32, 1 - 1<<32, -255, -1, 0, 9, 10, 16, 17, 257, 1 << 32, 1<<32 + 1, math.MaxInt} {
		x := some(t)
		for _, page := range []int{math.MinInt, -1, 0, 3, 7, 1023, 1024, math.MaxInt} {
			x.wantTake(t, pid, page, 0, api.ErrArg)
		}
		x.want(t, "a wrong pid")
		x.wantTake(t, 1, 3, 1, api.OK) // what was refused took none
		x.wantTake(t, 8, 3, 4, api.OK)
		x.want(t, "pids")
	}
}

func TestP16_2WrongPages(t *testing.T) {
	for _, page := range []int{math.MinInt, math.MinInt + 7, -1 << 32, 7 - 1<<32, -1024, -1017, -1, 1024, 1025, 1031, 2048, 1<<16 + 7, 1 << 32, 1<<32 + 7, math.MaxInt} {
		x := some(t)
		for _, pid := range []int{math.MinInt, -1, 0, 1, 2, 3, 8, 9, math.MaxInt} {
			x.wantTake(t, pid, page, 0, api.ErrArg)
		}
		x.want(t, "a wrong page")
		x.wantTake(t, 1, 0, 1, api.OK) // what was refused took none
		x.wantTake(t, 1, 1023, 4, api.OK)
		x.want(t, "pages")
	}
}

// Where several errors fit, it is the first one: ErrArg, ErrFull; ErrArg, ErrNone.
func TestP16_2FirstError(t *testing.T) {
	for _, x := range []both{made(t, 0), full(t, 1), full(t, 8), full(t, 1024)} {
		for _, o := range []owner{{0, 0}, {0, 7}, {9, 7}, {-1, 7}, {math.MinInt, 7}, {math.MaxInt, 7}, {1, -1}, {1, 1024}, {8, math.MinInt}, {8, math.MaxInt}, {0, 1024}, {9, -1}} {
			x.wantTake(t, o.pid, o.page, 0, api.ErrArg)
		}
		for _, o := range []owner{{1, 0}, {1, 7}, {8, 1023}} {
			x.wantTake(t, o.pid, o.page, 0, api.ErrFull)
		}
		x.want(t, "what was refused")
	}
	for _, x := range []both{made(t, 0), made(t, 1), made(t, 8), made(t, 1024)} {
		for _, slot := range []int{math.MinInt, -1, len(x.row), len(x.row) + 1, math.MaxInt} {
			x.wantFree(t, slot, api.ErrArg) // none of these is taken, too
		}
		for slot := range x.row {
			x.wantFree(t, slot, api.ErrNone)
		}
		x.want(t, "what was refused")
	}
}

// A page may have more than one slot, and all of them.
func TestP16_2SamePageAgain(t *testing.T) {
	for _, o := range []owner{{1, 0}, {1, 7}, {8, 1023}} {
		for _, many := range []int{2, 5, 1024} {
			x := made(t, many)
			for slot := range many {
				x.wantTake(t, o.pid, o.page, slot, api.OK)
			}
			x.want(t, "one page's")
			x.wantTake(t, o.pid, o.page, 0, api.ErrFull)
			x.wantFree(t, many/2, api.OK)
			x.want(t, "one page's, but for one") // the others stay taken for it
			x.wantTake(t, o.pid, o.page, many/2, api.OK)
			x.want(t, "one page's again")
		}
	}
}

// All are taken, then one more, by whoever it is; behind a Free just that one is to be had.
func TestP16_2AllSlots(t *testing.T) {
	for _, many := range []int{1, 2, 7, 128, 1023, 1024} {
		x := full(t, many)
		for pid := 1; pid <= maxProcs; pid++ {
			for _, page := range []int{0, 1, 7, 1023} {
				x.wantTake(t, pid, page, 0, api.ErrFull)
			}
		}
		x.want(t, "one more")
		for i := range many {
			slot := (i*389 + 5) % many
			x.wantFree(t, slot, api.OK)
			x.wantTake(t, 1+i%maxProcs, 1023-i, slot, api.OK)
			x.wantTake(t, 1, 1, 0, api.ErrFull)
		}
		x.want(t, "each one freed and taken again")
		for slot := many - 1; slot >= 0; slot-- {
			x.wantFree(t, slot, api.OK)
			if slot%97 == 0 {
				x.want(t, "one slot less")
			}
		}
		x.want(t, "no slots")
	}
}

// The least free one is taken first, in whatever order they were freed.
func TestP16_2LeastFirst(t *testing.T) {
	for _, freed := range [][]int{
		{0}, {9}, {4}, {0, 9}, {9, 0}, {3, 4, 5}, {5, 4, 3}, {4, 5, 3}, {4, 3, 5}, {8, 1, 6, 2}, {2, 6, 1, 8},
		{0, 1, 2, 3, 4, 5, 6, 7, 8, 9}, {9, 8, 7, 6, 5, 4, 3, 2, 1, 0}, {5, 0, 9, 2, 7, 1, 8, 3, 6, 4},
	} {
		x := full(t, 10)
		for _, slot := range freed {
			x.wantFree(t, slot, api.OK)
		}
		x.want(t, "some freed")
		for i, slot := range slices.Sorted(slices.Values(freed)) {
			x.wantTake(t, 8, 100+i, slot, api.OK)
			x.want(t, "the least one")
		}
		x.wantTake(t, 8, 100, 0, api.ErrFull)
	}
}

// One that is freed among others, between Takes, is the next one, if it is less than the others that are free.
func TestP16_2LeastAmongOthers(t *testing.T) {
	x := made(t, 6)
	for slot := range 4 {
		x.wantTake(t, 1, slot, slot, api.OK)
	}
	x.wantFree(t, 2, api.OK)
	x.wantTake(t, 2, 2, 2, api.OK) // ahead of 4, which nobody had yet
	x.wantTake(t, 2, 4, 4, api.OK)
	x.wantFree(t, 3, api.OK)
	x.wantFree(t, 0, api.OK)
	x.wantTake(t, 3, 0, 0, api.OK)
	x.wantFree(t, 1, api.OK)
	x.wantTake(t, 3, 1, 1, api.OK)
	x.wantTake(t, 3, 3, 3, api.OK)
	x.wantTake(t, 3, 5, 5, api.OK)
	x.wantTake(t, 3, 6, 0, api.ErrFull)
	x.want(t, "all slots")
}

func TestP16_2Free(t *testing.T) {
	x := some(t)
	for _, slot := range []int{1, 4, 6} {
		x.wantFree(t, slot, api.ErrNone) // freed before
	}
	x.want(t, "slots that are free")
	for _, slot := range []int{2, 7, 0, 3, 5} {
		x.wantFree(t, slot, api.OK)
		x.want(t, "a slot freed")
		x.wantFree(t, slot, api.ErrNone)
		x.want(t, "a slot freed twice")
	}
	both{x.s, make([]owner, 8)}.want(t, "all slots freed")
}

func TestP16_2WrongSlots(t *testing.T) {
	for _, slot := range []int{math.MinInt, math.MinInt + 2, -1 << 32, -2, -1, 8, 9, 1023, 1024, 1 << 32, 1<<32 + 2, 1 << 62, 1<<62 + 2, math.MaxInt} {
		for _, x := range []both{made(t, 8), some(t), full(t, 8)} {
			x.wantFree(t, slot, api.ErrArg)
			x.wantFree(t, slot, api.ErrArg)
			x.want(t, "a wrong slot")
		}
	}
}

// What Free answers of each slot, those that there are and others.
func TestP16_2FreeOfAll(t *testing.T) {
	for _, x := range []both{made(t, 0), made(t, 1), made(t, 5), some(t), full(t, 5), made(t, 1024), full(t, 1024)} {
		for range 2 {
			for _, slot := range append(numbers, len(x.row), len(x.row)+1) {
				x.holdFree(t, slot)
			}
			x.want(t, "Free")
		}
	}
}

// A slot that was freed may be taken for the same page again, and for another one.
func TestP16_2TakeAgain(t *testing.T) {
	x := made(t, 2)
	for i := range 5 {
		x.wantTake(t, 1, 7, 0, api.OK)
		x.wantTake(t, 1+i, 7+i, 1, api.OK)
		x.want(t, "taken again")
		x.wantFree(t, i%2, api.OK)
		x.wantFree(t, 1-i%2, api.OK)
		x.want(t, "freed again")
	}
}

// A slot that was taken is not taken again till it is free: whatever is called, as in a plain row.
func TestP16_2ManyCalls(t *testing.T) {
	c := chance(16)
	counts := map[api.Errno]int{}
	for _, many := range []int{0, 1, 2, 5, 40, 1024} {
		for _, takes := range []int{2, 3, 5} { // of six calls
			x := made(t, many)
			for i := range 2000 {
				slot := c.below(many+2) - 1
				if c.below(6) < takes {
					got, e := x.holdTake(t, c.below(10), c.below(1030)-3)
					counts[e]++
					wantOwner(t, "many calls", x.s, got, x.whose(got))
				} else {
					counts[x.holdFree(t, slot)]++
				}
				wantOwner(t, "many calls", x.s, slot, x.whose(slot))
				x.wantCounts(t, "many calls")
				if i%50 == 0 {
					x.want(t, "many calls")
				}
			}
			x.want(t, "many calls")
		}
	}
	for _, e := range []api.Errno{api.OK, api.ErrArg, api.ErrFull, api.ErrNone} {
		if counts[e] < 100 {
			t.Errorf("the error %d was to be told only %d times", e, counts[e])
		}
	}
}

func TestP16_3Owner(t *testing.T) {
	x := some(t)
	for _, c := range []struct {
		slot int
		its  owner
	}{
		{math.MinInt, owner{}}, {-1 << 32, owner{}}, {-1, owner{}}, {0, owner{1, 1023}}, {1, owner{}}, {2, owner{1, 7}}, {3, owner{2, 7}}, {4, owner{}},
		{5, owner{1, 7}}, {6, owner{}}, {7, owner{8, 0}}, {8, owner{}}, {9, owner{}}, {1024, owner{}}, {1 << 32, owner{}}, {1<<32 + 2, owner{}}, {math.MaxInt, owner{}},
	} {
		wantOwner(t, "Owner", x.s, c.slot, c.its)
	}
	x.wantFree(t, 2, api.OK)
	wantOwner(t, "Free", x.s, 2, owner{})
	wantOwner(t, "Free of another one of that page", x.s, 5, owner{1, 7})
	x.wantTake(t, 3, 9, 1, api.OK)
	wantOwner(t, "Take", x.s, 1, owner{3, 9})
	x.wantTake(t, 3, 0, 2, api.OK)
	wantOwner(t, "Take of the page 0", x.s, 2, owner{3, 0})
}

func TestP16_3All(t *testing.T) {
	x := made(t, 8)
	if got := collect(x.s.All()); len(got) != 0 {
		t.Errorf("All of what is free: %v", got)
	}
	for _, c := range []struct {
		x    both
		want []int
	}{{some(t), []int{0, 2, 3, 5, 7}}, {full(t, 4), []int{0, 1, 2, 3}}, {full(t, 1), []int{0}}, {made(t, 0), nil}} {
		if got := collect(c.x.s.All()); !slices.Equal(got, c.want) {
			t.Errorf("All: %v, not %v", got, c.want)
		}
	}
	y := some(t)
	y.wantFree(t, 3, api.OK)
	y.wantTake(t, 5, 5, 1, api.OK)
	if got := collect(y.s.All()); !slices.Equal(got, []int{0, 1, 2, 5, 7}) {
		t.Errorf("All behind Free and Take: %v", got)
	}
}

// Slots rise, in whatever order they were freed and taken.
func TestP16_3AllRises(t *testing.T) {
	x, c := full(t, 256), chance(3)
	for range 3000 {
		x.holdFree(t, c.below(256))
		x.holdFree(t, c.below(256))
		x.holdTake(t, 1+c.below(8), c.below(1024))
	}
	last, many := -1, 0
	for slot := range x.s.All() {
		if slot <= last || slot >= 256 || x.row[slot].pid == 0 {
			t.Fatalf("All tells %d behind %d", slot, last)
		}
		last = slot
		many++
	}
	if many < 3 || many != x.s.Used() || many != len(x.all()) {
		t.Errorf("All tells %d slots", many)
	}
}

func TestP16_3AllTwice(t *testing.T) {
	x, y := some(t), made(t, 3)
	all, none := x.s.All(), y.s.All()
	for range 3 {
		if got := collect(all); !slices.Equal(got, []int{0, 2, 3, 5, 7}) {
			t.Errorf("All: %v", got)
		}
		if got := collect(none); len(got) != 0 {
			t.Errorf("All of what is free: %v", got)
		}
	}
	// They are told as they are then, though they were asked for before.
	x.wantFree(t, 2, api.OK)
	x.wantFree(t, 7, api.OK)
	x.wantTake(t, 1, 3, 1, api.OK)
	y.wantTake(t, 1, 3, 0, api.OK)
	if got := collect(all); !slices.Equal(got, []int{0, 1, 3, 5}) {
		t.Errorf("All behind other calls: %v", got)
	}
	if got := collect(none); !slices.Equal(got, []int{0}) {
		t.Errorf("All of what has one now: %v", got)
	}
	x.freeAll(t)
	if got := collect(all); len(got) != 0 {
		t.Errorf("All of none: %v", got)
	}
}

func TestP16_3AllBrokenOff(t *testing.T) {
	x := some(t)
	want := x.all()
	all := x.s.All()
	for many := 1; many <= len(want); many++ {
		var got []int
		all(func(slot int) bool {
			got = append(got, slot)
			return len(got) < many
		})
		if !slices.Equal(got, want[:many]) {
			t.Errorf("broken off behind %d: %v", many, got)
		}
	}
	n := 0
	for slot := range all {
		n++
		if slot != 0 {
			t.Errorf("the first one: %d", slot)
		}
		break
	}
	if n != 1 {
		t.Errorf("%d told", n)
	}
	if got := collect(all); !slices.Equal(got, want) {
		t.Errorf("told again: %v", got)
	}
	x.want(t, "broken off")
}

// Whoever is told a slot may change the slots: each one is told as it is when it is its turn.
func TestP16_3AllChangedMeanwhile(t *testing.T) {
	for _, c := range []struct {
		what   string
		change func(x both)
		want   []int
	}{
		{"none", func(x both) {}, []int{0, 2, 3, 5, 7}},
		{"the told one is freed", func(x both) { x.wantFree(t, 0, api.OK) }, []int{0, 2, 3, 5, 7}},
		{"the next one is freed", func(x both) { x.wantFree(t, 2, api.OK) }, []int{0, 3, 5, 7}},
		{"the last one is freed", func(x both) { x.wantFree(t, 7, api.OK) }, []int{0, 2, 3, 5}},
		{"all are freed", func(x both) { x.freeAll(t) }, []int{0}},
		{"one behind is taken", func(x both) { x.wantTake(t, 5, 1, 1, api.OK) }, []int{0, 1, 2, 3, 5, 7}},
		{"all are taken", func(x both) {
			for _, slot := range []int{1, 4, 6} {
				x.wantTake(t, 5, 1, slot, api.OK)
			}
		}, []int{0, 1, 2, 3, 4, 5, 6, 7}},
		{"the told one is another page's", func(x both) {
			x.wantFree(t, 0, api.OK)
			x.wantTake(t, 5, 1, 0, api.OK)
		}, []int{0, 2, 3, 5, 7}},
		{"one is freed, and one ahead of it taken", func(x both) {
			x.wantFree(t, 3, api.OK)
			x.wantTake(t, 1, 7, 1, api.OK)
		}, []int{0, 1, 2, 5, 7}},
	} {
		x := some(t)
		var got []int
		for slot := range x.s.All() {
			if len(got) == 0 {
				c.change(x)
			}
			got = append(got, slot)
		}
		if !slices.Equal(got, c.want) {
			t.Errorf("%s: %v, not %v", c.what, got, c.want)
		}
		x.want(t, c.what)
	}
}

// A slot is freed, or one more taken, at each that is told: the telling ends with the last one.
func TestP16_3AllEnds(t *testing.T) {
	x := made(t, maxSlots)
	x.wantTake(t, 4, 0, 0, api.OK)
	n := 0
	for slot := range x.s.All() {
		if slot != n {
			t.Fatalf("told %d behind %d", slot, n-1)
		}
		n++
		x.holdTake(t, 4, n%maxPages)
	}
	if n != maxSlots {
		t.Errorf("%d slots told", n)
	}
	x.want(t, "each slot takes the next one")
	for slot := range x.s.All() {
		n--
		x.wantFree(t, slot, api.OK)
	}
	if n != 0 {
		t.Errorf("%d slots not told", n)
	}
	x.want(t, "each slot frees itself")
}

// An All within an All, and a Used, tell what is there then.
func TestP16_3AllWithinAll(t *testing.T) {
	x := some(t)
	n := 0
	for slot := range x.s.All() {
		x.want(t, "within")
		for its := range x.s.All() {
			if its == slot {
				x.wantFree(t, its, api.OK)
			}
		}
		n++
		x.want(t, "one freed within")
	}
	if n != 5 || x.s.Used() != 0 {
		t.Errorf("%d told, %d left", n, x.s.Used())
	}
}

// What is looked at is not changed by it.
func TestP16_3LooksChangeNothing(t *testing.T) {
	for _, x := range []both{made(t, 0), made(t, 3), some(t), full(t, 3)} {
		for _, slot := range numbers {
			x.s.Owner(slot)
		}
		x.s.Len()
		x.s.Used()
		x.s.Copy()
		for range x.s.All() {
			break
		}
		x.want(t, "looks")
	}
}

func TestNotThere(t *testing.T) {
	for _, s := range []*slots.Slots{nil, {}, new(slots.Slots)} {
		for range 2 {
			for _, pid := range pids {
				for _, page := range pages {
					if slot, e := s.Take(pid, page); slot != 0 || e != api.ErrNil {
						t.Errorf("Take(%d, %d): %d, error %d", pid, page, slot, e)
					}
				}
			}
			for _, slot := range numbers {
				if e := s.Free(slot); e != api.ErrNil {
					t.Errorf("Free(%d): error %d", slot, e)
				}
				wantOwner(t, "not there", s, slot, owner{})
			}
			if s.Len() != 0 || s.Used() != 0 {
				t.Errorf("%d of %d slots are taken", s.Used(), s.Len())
			}
			if all := s.All(); all == nil {
				t.Error("All is nil")
			} else if got := collect(all); len(got) != 0 {
				t.Errorf("All: %v", got)
			}
			if s.Copy() != nil {
				t.Error("Copy of what is not there")
			}
		}
	}
}
