package areas_test

import (
	"math"
	"slices"
	"testing"

	"byre/api"
	"byre/areas"
)

// What the chapter names, in its own numbers.
const (
	maxPages = 1024
	maxRuns  = 32
)

// pages are the first pages of ranges, those that may be and others.
var pages = []int{
	math.MinInt, math.MinInt + 1, math.MinInt + 1024, -1 << 32, 1 - 1<<32, -1025, -1024, -1023, -2, -1,
	0, 1, 2, 31, 32, 511, 512, 1022, 1023,
	1024, 1025, 2047, 2048, 1 << 16, 1 << 32, 1<<32 + 1, math.MaxInt - 1024, math.MaxInt - 1023, math.MaxInt - 1, math.MaxInt,
}

// counts are how many pages ranges have, those that may be and others.
var counts = []int{
	math.MinInt, math.MinInt + 1, math.MinInt + 1024, -1 << 32, 1 - 1<<32, -1024, -1023, -2, -1, 0,
	1, 2, 3, 31, 32, 511, 512, 513, 1022, 1023, 1024,
	1025, 1026, 2048, 1 << 16, 1 << 32, 1<<32 + 1, math.MaxInt - 1023, math.MaxInt - 1022, math.MaxInt - 1, math.MaxInt,
}

// wrong are rights that may not be.
var wrong = []uint8{0, 4, 5, 6, 7, 8, 127, 128, 129, 130, 131, 254, 255}

// run is a run, written shortly.
func run(page, count int, rights uint8) api.Run {
	return api.Run{Page: page, Count: count, Rights: rights}
}

// plain is areas as a row of pages, each with its rights, or 0.
type plain [maxPages]uint8

// runs is what Runs is to tell.
func (m *plain) runs() []api.Run {
	var l []api.Run
	for page, rights := range m {
		switch {
		case rights == 0:
		case page > 0 && m[page-1] == rights:
			l[len(l)-1].Count++
		default:
			l = append(l, run(page, 1, rights))
		}
	}
	return l
}

// rangeMay tells whether the range may be.
func rangeMay(page, count int) bool {
	return page > -1 && page < maxPages && count > 0 && count <= maxPages && page+count <= maxPages
}

// rightsMay tells whether the rights may be.
func rightsMay(rights uint8) bool {
	return rights == 1 || rights == 2 || rights == 3
}

// mapped is how many of the range's pages are mapped.
func (m *plain) mapped(page, count int) int {
	n := 0
	for _, rights := range m[page : page+count] {
		if rights > 0 {
			n++
		}
	}
	return n
}

// turn gives the range the rights, if there are not too many runs then.
func (m *plain) turn(page, count int, rights uint8) api.Errno {
	other := *m
	for i := range count {
		other[page+i] = rights
	}
	if len(other.runs()) > maxRuns {
		return api.ErrFull
	}
	*m = other
	return api.OK
}

// put is what Map is to answer, and to do.
func (m *plain) put(page, count int, rights uint8) api.Errno {
	switch {
	case !rangeMay(page, count) || !rightsMay(rights):
		return api.ErrArg
	case m.mapped(page, count) > 0:
		return api.ErrTwice
	}
	return m.turn(page, count, rights)
}

// unmap is what Unmap is to answer, and to do.
func (m *plain) unmap(page, count int) api.Errno {
	if !rangeMay(page, count) {
		return api.ErrArg
	}
	return m.turn(page, count, 0)
}

// protect is what Protect is to answer, and to do.
func (m *plain) protect(page, count int, rights uint8) api.Errno {
	switch {
	case !rangeMay(page, count) || !rightsMay(rights):
		return api.ErrArg
	case m.mapped(page, count) != count:
		return api.ErrNone
	}
	return m.turn(page, count, rights)
}

// all is what Mapped is to answer.
func (m *plain) all(page, count int) api.Errno {
	switch {
	case !rangeMay(page, count):
		return api.ErrArg
	case m.mapped(page, count) != count:
		return api.ErrNone
	}
	return api.OK
}

// both are areas and plain ones that are to be as they are.
type both struct {
	a *areas.Areas
	m *plain
}

// made are new areas with these runs.
func made(t *testing.T, l ...api.Run) both {
	t.Helper()
	x := both{areas.New(), &plain{}}
	if x.a == nil {
		t.Fatal("New: nil")
	}
	for _, r := range l {
		x.wantMap(t, r.Page, r.Count, r.Rights, api.OK)
	}
	return x
}

// wantRuns holds the runs that are told against those that are to be told.
func (x both) wantRuns(t *testing.T, what string) {
	t.Helper()
	l := x.m.runs()
	if got := slices.Collect(x.a.Runs()); !slices.Equal(got, l) {
		t.Errorf("%s: the runs %v, not %v", what, got, l)
	}
	if got := x.a.Len(); got != len(l) {
		t.Errorf("%s: %d runs, not %d", what, got, len(l))
	}
}

// want holds all that areas tell of their pages against what they are to tell.
func (x both) want(t *testing.T, what string) {
	t.Helper()
	x.wantRuns(t, what)
	for page, rights := range x.m {
		wantRights(t, x.a, page, rights)
	}
	for _, page := range pages {
		if page < 0 || page >= maxPages {
			wantRights(t, x.a, page, 0)
		}
	}
}

// wantRights holds the rights of a page, 0 of one that is not mapped, against what they are to be.
func wantRights(t *testing.T, a *areas.Areas, page int, rights uint8) {
	t.Helper()
	if got, ok := a.Rights(page); got != rights || ok != (rights > 0) {
		t.Errorf("Rights(%d): %d, %t; not %d", page, got, ok, rights)
	}
}

// wantTold holds the runs against these, told in plain numbers.
func (x both) wantTold(t *testing.T, l ...api.Run) {
	t.Helper()
	if got := slices.Collect(x.a.Runs()); !slices.Equal(got, l) {
		t.Errorf("the runs %v, not %v", got, l)
	}
	x.want(t, "as told")
}

// call is one of the four calls that tell an error.
type call struct {
	name        string
	page, count int
	rights      uint8
}

// do calls it, of the areas and of the plain ones: both answers.
func (x both) do(c call) (got, want api.Errno) {
	switch c.name {
	case "Map":
		return x.a.Map(c.page, c.count, c.rights), x.m.put(c.page, c.count, c.rights)
	case "Unmap":
		return x.a.Unmap(c.page, c.count), x.m.unmap(c.page, c.count)
	case "Protect":
		return x.a.Protect(c.page, c.count, c.rights), x.m.protect(c.page, c.count, c.rights)
	}
	return x.a.Mapped(c.page, c.count), x.m.all(c.page, c.count)
}

// hold holds what a call answers, and the runs behind it, against what they are to be, and tells the answer.
func (x both) hold(t *testing.T, c call) api.Errno {
	t.Helper()
	before := x.m.runs()
	got, want := x.do(c)
	if got != want {
		t.Errorf("%s(%d, %d, %d) of %v: error %d, not %d", c.name, c.page, c.count, c.rights, before, got, want)
	}
	x.wantRuns(t, c.name)
	return want
}

// wantError holds what a call answers, of the areas and of the plain ones, against the error that it is to tell.
func (x both) wantError(t *testing.T, c call, want api.Errno) {
	t.Helper()
	if e := x.hold(t, c); e != want {
		t.Errorf("%s(%d, %d, %d): the plain ones' error %d, not %d", c.name, c.page, c.count, c.rights, e, want)
	}
	x.want(t, c.name)
}

func (x both) wantMap(t *testing.T, page, count int, rights uint8, want api.Errno) {
	t.Helper()
	x.wantError(t, call{"Map", page, count, rights}, want)
}

func (x both) wantUnmap(t *testing.T, page, count int, want api.Errno) {
	t.Helper()
	x.wantError(t, call{"Unmap", page, count, 0}, want)
}

func (x both) wantProtect(t *testing.T, page, count int, rights uint8, want api.Errno) {
	t.Helper()
	x.wantError(t, call{"Protect", page, count, rights}, want)
}

func (x both) wantMapped(t *testing.T, page, count int, want api.Errno) {
	t.Helper()
	x.wantError(t, call{"Mapped", page, count, 0}, want)
}

// full are areas of 32 runs of one page each, 10 pages apart, from the page 10 on, of rights 3; the last one is 320.
func full(t *testing.T) both {
	t.Helper()
	x := made(t)
	for i := range maxRuns {
		x.wantMap(t, 10+10*i, 1, 3, api.OK)
	}
	if x.a.Len() != 32 {
		t.Fatalf("%d runs, not 32", x.a.Len())
	}
	return x
}

// wide are areas of 32 runs of five pages each, that meet: the rights 1 and 2 by turns; they end ahead of 160.
func wide(t *testing.T) both {
	t.Helper()
	x := made(t)
	for i := range maxRuns {
		x.wantMap(t, 5*i, 5, uint8(1+i%2), api.OK)
	}
	if x.a.Len() != 32 {
		t.Fatalf("%d runs, not 32", x.a.Len())
	}
	return x
}

func TestExamples(t *testing.T) {
	x := made(t)
	x.wantMap(t, 0, 4, 3, api.OK)
	x.wantMap(t, 4, 2, 3, api.OK)
	if x.a.Len() != 1 {
		t.Errorf("Len: %d", x.a.Len())
	}
	x.wantProtect(t, 1, 2, 1, api.OK)
	if x.a.Len() != 3 {
		t.Errorf("Len: %d", x.a.Len())
	}
	x.wantTold(t, run(0, 1, 3), run(1, 2, 1), run(3, 3, 3))
	x.wantUnmap(t, 5, 9, api.OK)
	x.wantMap(t, 0, 1, 1, api.ErrTwice)
	wantRights(t, x.a, 5, 0)
	x.wantTold(t, run(0, 1, 3), run(1, 2, 1), run(3, 2, 3))
}

func TestNewAreNone(t *testing.T) {
	made(t).wantTold(t)
	if areas.New() == areas.New() {
		t.Error("New tells the same areas twice")
	}
}

// begun are areas that have some pages, in each way: none, all, some.
func begun(t *testing.T) []both {
	t.Helper()
	return []both{
		made(t), made(t, run(0, 1024, 3)), made(t, run(0, 1, 1)), made(t, run(1023, 1, 2)), made(t, run(0, 512, 1)), made(t, run(511, 2, 2), run(1022, 2, 3)),
	}
}

// other is areas as x has them, made anew.
func (x both) other(t *testing.T) both {
	t.Helper()
	return made(t, x.m.runs()...)
}

// Each range, of each call, of areas that have none of its pages, all, or some.
func TestP13_1P13_2Ranges(t *testing.T) {
	for _, x := range begun(t) {
		for _, name := range []string{"Map", "Unmap", "Protect", "Mapped"} {
			for _, page := range pages {
				for _, count := range counts {
					y := both{x.a.Copy(), &plain{}}
					*y.m = *x.m
					y.hold(t, call{name, page, count, 3})
				}
			}
		}
	}
}

func TestP13_1P13_2RangesByHand(t *testing.T) {
	for _, c := range []struct {
		page, count int
		may         bool
	}{
		{math.MinInt, 1, false}, {-1, 1, false}, {0, 1, true}, {1023, 1, true}, {1024, 1, false}, {math.MaxInt, 1, false},
		{0, math.MinInt, false}, {0, -1, false}, {0, 0, false}, {0, 1024, true}, {0, 1025, false}, {0, math.MaxInt, false},
		{1, 1023, true}, {1, 1024, false}, {1023, 2, false}, {1022, 2, true}, {1024, 0, false}, {1024, -1, false}, {512, 512, true}, {512, 513, false},
		{-1, 2, false}, {-1, 1025, false}, {-1024, 1025, false}, {1, math.MaxInt, false}, {1023, math.MaxInt, false}, {math.MaxInt, math.MaxInt, false}, {math.MaxInt, 1024, false},
		{math.MinInt, math.MinInt, false}, {math.MinInt, math.MaxInt, false}, {math.MaxInt, math.MinInt, false}, {1024, math.MaxInt, false},
		{2, math.MaxInt - 1, false}, {math.MinInt + 1, math.MaxInt, false}, {math.MinInt, -1, false}, {-1, math.MinInt, false}, {1025, -1, false}, {2048, -1024, false},
	} {
		mapped, missing := api.OK, api.ErrNone
		if !c.may {
			mapped, missing = api.ErrArg, api.ErrArg
		}
		made(t).wantMap(t, c.page, c.count, 1, mapped)
		made(t).wantUnmap(t, c.page, c.count, mapped)
		made(t).wantProtect(t, c.page, c.count, 1, missing)
		made(t).wantMapped(t, c.page, c.count, missing)
		made(t, run(0, 1024, 2)).wantUnmap(t, c.page, c.count, mapped)
		made(t, run(0, 1024, 2)).wantProtect(t, c.page, c.count, 1, mapped)
		made(t, run(0, 1024, 2)).wantMapped(t, c.page, c.count, mapped)
	}
}

func TestP13_1P13_2Rights(t *testing.T) {
	for rights := range 256 {
		want := api.ErrArg
		if rights >= 1 && rights <= 3 {
			want = api.OK
		}
		x := made(t)
		x.wantMap(t, 7, 3, uint8(rights), want)
		for had := range 3 {
			x = made(t, run(7, 3, uint8(1+had)))
			x.wantProtect(t, 7, 3, uint8(rights), want)
			x.wantProtect(t, 8, 1, uint8(rights), want)
		}
	}
}

func TestP13_1Twice(t *testing.T) {
	for _, l := range [][]api.Run{
		{run(10, 1, 1)}, {run(14, 1, 1)}, {run(12, 1, 1)}, // at the first page, the last one, in the middle
		{run(10, 5, 1)}, {run(5, 20, 1)}, {run(0, 1024, 1)}, // just those, and more
		{run(5, 6, 2)}, {run(14, 9, 2)}, {run(11, 3, 2)}, {run(0, 11, 3)}, {run(14, 1010, 3)},
		{run(10, 1, 1), run(14, 1, 2)}, {run(0, 10, 1), run(15, 5, 1), run(12, 1, 1)},
		{run(10, 1, 1), run(11, 1, 2), run(12, 1, 3), run(13, 1, 1), run(14, 1, 2)},
	} {
		for rights := uint8(1); rights <= 3; rights++ {
			made(t, l...).wantMap(t, 10, 5, rights, api.ErrTwice)
		}
	}
	// Those that meet it alone are no reason.
	made(t, run(9, 1, 1), run(15, 1, 1)).wantMap(t, 10, 5, 2, api.OK)
	made(t, run(0, 10, 1), run(15, 1009, 1)).wantMap(t, 10, 5, 2, api.OK)
}

// What is mapped twice is refused at the space's ends, too.
func TestP13_1TwiceAtTheEnds(t *testing.T) {
	made(t, run(0, 1, 1)).wantMap(t, 0, 1024, 1, api.ErrTwice)
	made(t, run(1023, 1, 1)).wantMap(t, 0, 1024, 1, api.ErrTwice)
	made(t, run(1023, 1, 1)).wantMap(t, 1023, 1, 1, api.ErrTwice)
	made(t, run(0, 1, 1)).wantMap(t, 0, 1, 1, api.ErrTwice)
	made(t, run(1023, 1, 1)).wantMap(t, 0, 1023, 1, api.OK)
	made(t, run(0, 1, 1)).wantMap(t, 1, 1023, 1, api.OK)
}

func TestP13_2None(t *testing.T) {
	for _, l := range [][]api.Run{
		{},
		{run(11, 4, 3)}, {run(10, 4, 3)}, {run(10, 2, 3), run(13, 2, 3)}, // the first page alone is missing, the last one, one in the middle
		{run(11, 1000, 3)}, {run(0, 14, 3)}, {run(0, 12, 3), run(13, 1011, 3)},
		{run(10, 1, 3)}, {run(14, 1, 3)}, {run(12, 1, 3)}, {run(0, 10, 3), run(15, 9, 3)},
		{run(10, 2, 1), run(13, 2, 2)}, {run(10, 1, 1), run(11, 1, 2), run(12, 1, 3), run(13, 1, 1)},
	} {
		made(t, l...).wantMapped(t, 10, 5, api.ErrNone)
		for rights := uint8(1); rights <= 3; rights++ {
			made(t, l...).wantProtect(t, 10, 5, rights, api.ErrNone)
		}
	}
}

func TestP13_2Mapped(t *testing.T) {
	for _, l := range [][]api.Run{
		{run(10, 5, 1)}, {run(9, 7, 2)}, {run(0, 1024, 3)}, {run(10, 2, 1), run(12, 3, 2)},
		{run(10, 1, 1), run(11, 1, 2), run(12, 1, 3), run(13, 1, 1), run(14, 1, 2)}, {run(0, 12, 1), run(12, 1, 2), run(13, 1000, 1)},
	} {
		made(t, l...).wantMapped(t, 10, 5, api.OK)
		made(t, l...).wantMapped(t, 10, 1, api.OK)
		made(t, l...).wantMapped(t, 14, 1, api.OK)
		made(t, l...).wantProtect(t, 10, 5, 3, api.OK)
	}
	made(t, run(0, 1024, 1)).wantMapped(t, 0, 1024, api.OK)
	made(t, run(0, 1023, 1)).wantMapped(t, 0, 1024, api.ErrNone)
	made(t, run(1, 1023, 1)).wantMapped(t, 0, 1024, api.ErrNone)
}

func TestP13_1Full(t *testing.T) {
	x := made(t)
	for i := range maxRuns {
		x.wantMap(t, 2*i, 1, 3, api.OK) // the 32nd one is the last one that may be
	}
	x.wantMap(t, 64, 1, 3, api.ErrFull)
	x.wantMap(t, 1023, 1, 1, api.ErrFull)
	x.wantMap(t, 100, 900, 2, api.ErrFull)
	x.wantMap(t, 63, 1, 1, api.ErrFull) // it meets one of other rights
	x.wantMap(t, 1, 1, 2, api.ErrFull)
	x.wantMap(t, 63, 5, 3, api.OK) // it goes into the last one
	x.wantMap(t, 61, 1, 3, api.OK) // it makes one run of two
	if x.a.Len() != 31 {
		t.Errorf("%d runs, not 31", x.a.Len())
	}
	x.wantMap(t, 1023, 1, 1, api.OK)
	x.wantMap(t, 1000, 1, 1, api.ErrFull)
}

// At 32 runs a Map may be, as long as there are as many or fewer then.
func TestP13_1FullAndJoined(t *testing.T) {
	x := full(t)
	x.wantMap(t, 9, 1, 3, api.OK)
	x.wantMap(t, 11, 1, 3, api.OK)
	x.wantMap(t, 0, 9, 1, api.ErrFull)
	x.wantMap(t, 0, 9, 3, api.OK)
	x.wantMap(t, 321, 703, 3, api.OK)
	if x.a.Len() != 32 {
		t.Errorf("%d runs, not 32", x.a.Len())
	}
	x.wantMap(t, 12, 8, 2, api.ErrFull) // it would fill what is between two, with other rights
	x.wantMap(t, 12, 8, 3, api.OK)
	x.wantMap(t, 21, 9, 2, api.OK)
	x.wantMap(t, 31, 9, 2, api.ErrFull)
}

func TestP13_2UnmapFull(t *testing.T) {
	x := made(t, run(0, 1024, 2))
	for i := range maxRuns - 1 {
		x.wantUnmap(t, 10+10*i, 3, api.OK) // each one is a hole; behind the 31st one there are 32 runs
	}
	x.wantUnmap(t, 500, 1, api.ErrFull)
	x.wantUnmap(t, 1022, 1, api.ErrFull)
	x.wantUnmap(t, 1, 8, api.ErrFull)
	x.wantUnmap(t, 1023, 1, api.OK)
	x.wantUnmap(t, 0, 1, api.OK)
	x.wantUnmap(t, 9, 1, api.OK)
	x.wantUnmap(t, 13, 1, api.OK)
	x.wantUnmap(t, 10, 3, api.OK)
	x.wantUnmap(t, 15, 1, api.ErrFull)
	x.wantUnmap(t, 10, 10, api.OK)
	if x.a.Len() != 31 {
		t.Errorf("%d runs, not 31", x.a.Len())
	}
	x.wantUnmap(t, 500, 1, api.OK)
	x.wantUnmap(t, 502, 1, api.ErrFull)
	x.wantUnmap(t, 0, 1024, api.OK)
	x.wantTold(t)
}

// Runs that meet may have a hole at 32 where one of them ends, and not within one.
func TestP13_2UnmapFullWhereTheyMeet(t *testing.T) {
	x := wide(t)
	x.wantUnmap(t, 2, 1, api.ErrFull)
	x.wantUnmap(t, 157, 1, api.ErrFull)
	x.wantUnmap(t, 11, 3, api.ErrFull)
	x.wantUnmap(t, 14, 2, api.OK)
	x.wantUnmap(t, 11, 1, api.ErrFull)
	x.wantUnmap(t, 20, 5, api.OK)
	x.wantUnmap(t, 41, 1, api.OK)
	x.wantUnmap(t, 51, 1, api.ErrFull)
}

func TestP13_2ProtectFull(t *testing.T) {
	x := made(t, run(0, 1024, 1))
	for i := range 15 {
		x.wantProtect(t, 10+10*i, 3, 2, api.OK) // each one makes two more
	}
	x.wantProtect(t, 500, 3, 2, api.ErrFull) // 31, and two
	x.wantProtect(t, 1023, 1, 2, api.OK)     // 32
	x.wantProtect(t, 0, 1, 2, api.ErrFull)
	x.wantProtect(t, 500, 1, 2, api.ErrFull)
	x.wantProtect(t, 11, 1, 1, api.ErrFull)
	x.wantProtect(t, 12, 1, 3, api.ErrFull)
	x.wantProtect(t, 500, 1, 1, api.OK)
	x.wantProtect(t, 10, 3, 3, api.OK)
	x.wantProtect(t, 13, 7, 3, api.OK)
	x.wantProtect(t, 1000, 24, 2, api.OK)
	if x.a.Len() != 31 {
		t.Errorf("%d runs, not 31", x.a.Len())
	}
	x.wantProtect(t, 0, 1, 2, api.OK)
	x.wantProtect(t, 5, 1, 2, api.ErrFull)
	x.wantProtect(t, 0, 1024, 3, api.OK)
	x.wantTold(t, run(0, 1024, 3))
}

// At 32 runs each call may be that leaves as many, or fewer, whichever call it is.
func TestP13_1P13_2FullAndFewer(t *testing.T) {
	x := wide(t)
	x.wantProtect(t, 2, 1, 2, api.ErrFull)
	x.wantProtect(t, 3, 2, 2, api.OK) // what goes to the next one is cut off of the first
	x.wantProtect(t, 0, 3, 1, api.OK)
	x.wantProtect(t, 0, 3, 3, api.OK)
	x.wantMap(t, 161, 1, 2, api.ErrFull)
	x.wantMap(t, 160, 1, 2, api.OK)
	x.wantProtect(t, 0, 161, 2, api.OK)
	x.wantTold(t, run(0, 161, 2))
	x = full(t)
	x.wantProtect(t, 10, 1, 1, api.OK)
	x.wantUnmap(t, 320, 1, api.OK)
	x.wantMap(t, 400, 10, 2, api.OK)
	x.wantUnmap(t, 401, 1, api.ErrFull)
	x.wantProtect(t, 401, 1, 1, api.ErrFull)
	x.wantMap(t, 420, 1, 2, api.ErrFull)
	x.wantUnmap(t, 900, 100, api.OK) // none of them is mapped
}

// Where several errors fit, it is the first one.
func TestP13_1P13_2FirstError(t *testing.T) {
	x := full(t)
	for _, rights := range wrong {
		x.wantMap(t, 10, 1, rights, api.ErrArg)   // mapped, too
		x.wantMap(t, 12, 1, rights, api.ErrArg)   // full, too
		x.wantMap(t, 9, 1016, rights, api.ErrArg) // all of it
		x.wantProtect(t, 12, 1, rights, api.ErrArg)
		x.wantProtect(t, 10, 1, rights, api.ErrArg)
		x.wantProtect(t, 10, 1015, rights, api.ErrArg)
	}
	x.wantMap(t, 10, 1015, 3, api.ErrArg)
	x.wantMap(t, 9, 5, 1, api.ErrTwice) // too many, too
	x.wantMap(t, 320, 5, 1, api.ErrTwice)
	x.wantMap(t, 300, 700, 2, api.ErrTwice)
	x.wantProtect(t, 10, 1015, 1, api.ErrArg)
	x.wantProtect(t, 12, 3, 1, api.ErrNone) // it would be one more
	x.wantProtect(t, 320, 2, 1, api.ErrNone)
	x.wantProtect(t, 9, 3, 1, api.ErrNone)
	x.wantMapped(t, 320, 705, api.ErrArg)
	x.wantUnmap(t, 320, 705, api.ErrArg)
	y := wide(t)
	y.wantProtect(t, 158, 3, 1, api.ErrNone)
	y.wantProtect(t, 2, 1, 4, api.ErrArg)
	y.wantUnmap(t, 2, 1023, api.ErrArg)
	y.wantUnmap(t, 2, 1, api.ErrFull)
	y.wantMap(t, 159, 2, 3, api.ErrTwice)
}

func TestP13_1Joins(t *testing.T) {
	left, right := run(5, 5, 2), run(13, 4, 2)
	x := made(t, left, right)
	x.wantMap(t, 10, 3, 2, api.OK)
	x.wantTold(t, run(5, 12, 2))
	x = made(t, left, right)
	x.wantMap(t, 10, 2, 2, api.OK)
	x.wantTold(t, run(5, 7, 2), run(13, 4, 2))
	x = made(t, left, right)
	x.wantMap(t, 11, 2, 2, api.OK)
	x.wantTold(t, run(5, 5, 2), run(11, 6, 2))
	x = made(t, left, right)
	x.wantMap(t, 11, 1, 2, api.OK)
	x.wantTold(t, run(5, 5, 2), run(11, 1, 2), run(13, 4, 2))
	for _, rights := range []uint8{1, 3} {
		x = made(t, left, right)
		x.wantMap(t, 10, 3, rights, api.OK)
		x.wantTold(t, run(5, 5, 2), run(10, 3, rights), run(13, 4, 2))
	}
}

// Each rights of the left, the middle and the right one, or none of them.
func TestP13_1JoinsOfAll(t *testing.T) {
	for left := range uint8(4) {
		for right := range uint8(4) {
			for middle := uint8(1); middle <= 3; middle++ {
				var l []api.Run
				if left > 0 {
					l = append(l, run(0, 4, left))
				}
				if right > 0 {
					l = append(l, run(6, 1018, right))
				}
				x := made(t, l...)
				x.wantMap(t, 4, 2, middle, api.OK)
				x = made(t, append(l, run(4, 2, 1))...)
				x.wantProtect(t, 4, 2, middle, api.OK)
				x.wantUnmap(t, 4, 2, api.OK)
			}
		}
	}
}

func TestP13_2Protect(t *testing.T) {
	x := made(t, run(10, 10, 3))
	x.wantProtect(t, 13, 4, 1, api.OK) // it splits one into three
	x.wantTold(t, run(10, 3, 3), run(13, 4, 1), run(17, 3, 3))
	x.wantProtect(t, 13, 4, 1, api.OK) // it has them already
	x.wantTold(t, run(10, 3, 3), run(13, 4, 1), run(17, 3, 3))
	x.wantProtect(t, 14, 1, 1, api.OK)
	x.wantTold(t, run(10, 3, 3), run(13, 4, 1), run(17, 3, 3))
	x.wantProtect(t, 13, 1, 3, api.OK) // it goes to the left one
	x.wantTold(t, run(10, 4, 3), run(14, 3, 1), run(17, 3, 3))
	x.wantProtect(t, 16, 1, 3, api.OK) // it goes to the right one
	x.wantTold(t, run(10, 4, 3), run(14, 2, 1), run(16, 4, 3))
	x.wantProtect(t, 14, 2, 3, api.OK) // it joins all
	x.wantTold(t, run(10, 10, 3))
	x.wantProtect(t, 10, 1, 2, api.OK)
	x.wantProtect(t, 19, 1, 1, api.OK)
	x.wantTold(t, run(10, 1, 2), run(11, 8, 3), run(19, 1, 1))
	x.wantProtect(t, 10, 9, 1, api.OK) // over two, into a third one
	x.wantTold(t, run(10, 10, 1))
}

func TestP13_2Unmap(t *testing.T) {
	x := made(t, run(10, 10, 3), run(20, 5, 1), run(30, 5, 2))
	x.wantUnmap(t, 0, 10, api.OK) // none of them is mapped
	x.wantUnmap(t, 25, 5, api.OK)
	x.wantUnmap(t, 35, 989, api.OK)
	x.wantTold(t, run(10, 10, 3), run(20, 5, 1), run(30, 5, 2))
	x.wantUnmap(t, 10, 2, api.OK) // a run's begin
	x.wantUnmap(t, 18, 2, api.OK) // its end
	x.wantUnmap(t, 14, 1, api.OK) // out of its middle
	x.wantTold(t, run(12, 2, 3), run(15, 3, 3), run(20, 5, 1), run(30, 5, 2))
	x.wantUnmap(t, 14, 1, api.OK) // again
	x.wantUnmap(t, 17, 14, api.OK)
	x.wantTold(t, run(12, 2, 3), run(15, 2, 3), run(31, 4, 2))
	x.wantUnmap(t, 13, 20, api.OK) // of several runs at once
	x.wantTold(t, run(12, 1, 3), run(33, 2, 2))
	x.wantUnmap(t, 0, 1024, api.OK)
	x.wantTold(t)
	x.wantUnmap(t, 0, 1024, api.OK)
	x.wantTold(t)
}

// What was mapped and unmapped is what it was ahead of it.
func TestP13_2MappedAndUnmapped(t *testing.T) {
	for _, l := range [][]api.Run{
		{}, {run(5, 5, 1)}, {run(13, 9, 1)}, {run(5, 5, 1), run(13, 9, 1)}, {run(5, 5, 2), run(13, 9, 3)}, {run(0, 10, 1), run(13, 1011, 1)},
	} {
		for rights := uint8(1); rights <= 3; rights++ {
			x := made(t, l...)
			x.wantMap(t, 10, 3, rights, api.OK)
			x.wantUnmap(t, 10, 3, api.OK)
			x.wantTold(t, l...)
		}
	}
}

// window are areas of four pages, from first on, with rights by the digits of n to the base 4.
func window(t *testing.T, first, n int) both {
	t.Helper()
	x := both{areas.New(), &plain{}}
	for i := range 4 {
		if rights := uint8(n >> (2 * i) % 4); rights > 0 {
			x.hold(t, call{"Map", first + i, 1, rights})
		}
	}
	return x
}

// Each call, of each range of four pages, whatever rights each of them has.
func TestP13_1P13_2AllOfFourPages(t *testing.T) {
	for _, first := range []int{0, 500, 1020} {
		for n := range 256 {
			x := window(t, first, n)
			for from := range 4 {
				for count := 1; count <= 4-from; count++ {
					for rights := uint8(1); rights <= 3; rights++ {
						for _, name := range []string{"Map", "Unmap", "Protect", "Mapped"} {
							y := both{x.a.Copy(), &plain{}}
							*y.m = *x.m
							y.hold(t, call{name, first + from, count, rights})
							x.wantRuns(t, "what was copied")
						}
					}
				}
			}
		}
	}
}

// chance are numbers that look like chance, and are the same each time.
type chance uint64

// below is the next number, from 0 on, below n.
func (c *chance) below(n int) int {
	*c = *c*6364136223846793005 + 1442695040888963407
	return int(uint64(*c)>>33) % n
}

// Many calls one behind the other; each answer, and the runs behind it, are the plain ones'.
func TestP13_1P13_2ManyCalls(t *testing.T) {
	names := []string{"Map", "Map", "Unmap", "Protect", "Protect", "Mapped"}
	told := map[api.Errno]int{}
	for _, widest := range []int{1, 2, 4, 16, 64, 1200} {
		for _, space := range []int{40, 100, 300, 1030} {
			x, c := made(t), chance(widest*space)
			for range 1000 {
				e := x.hold(t, call{names[c.below(len(names))], c.below(space) - 2, c.below(widest+1) + c.below(2), uint8(c.below(5))})
				told[e]++
			}
			x.want(t, "many calls")
		}
	}
	for _, e := range []api.Errno{api.OK, api.ErrArg, api.ErrTwice, api.ErrNone, api.ErrFull} {
		if told[e] < 100 {
			t.Errorf("the error %d was to be told only %d times", e, told[e])
		}
	}
}

// Runs rise, are apart, and where two meet, their rights are others.
func TestRunsRise(t *testing.T) {
	x, c := made(t), chance(13)
	for range 3000 {
		x.do(call{[]string{"Map", "Protect", "Unmap"}[c.below(3)], c.below(200), 1 + c.below(6), uint8(1 + c.below(3))})
		last := run(-1, 0, 0)
		many := 0
		for r := range x.a.Runs() {
			behind := last.Page + last.Count
			if r.Page < behind || r.Page == behind && r.Rights == last.Rights || r.Page < 0 || r.Count < 1 || r.Page+r.Count > maxPages || !rightsMay(r.Rights) {
				t.Fatalf("%v behind %v", r, last)
			}
			last = r
			many++
		}
		if many > maxRuns || many != x.a.Len() {
			t.Fatalf("%d runs are told, Len is %d", many, x.a.Len())
		}
	}
}

func TestP13_3Rights(t *testing.T) {
	x := made(t, run(0, 2, 1), run(5, 1, 2), run(1020, 4, 3))
	for _, c := range []struct {
		page   int
		rights uint8
	}{
		{math.MinInt, 0}, {-1 << 32, 0}, {-1, 0}, {0, 1}, {1, 1}, {2, 0}, {4, 0}, {5, 2}, {6, 0}, {1019, 0}, {1020, 3}, {1023, 3},
		{1024, 0}, {1025, 0}, {1 << 32, 0}, {1<<32 + 5, 0}, {math.MaxInt - 1, 0}, {math.MaxInt, 0},
	} {
		wantRights(t, x.a, c.page, c.rights)
	}
	wantRights(t, made(t).a, 0, 0)
	wantRights(t, made(t).a, 1023, 0)
}

// What is looked at is not changed by it.
func TestP13_3LooksChangeNothing(t *testing.T) {
	x := wide(t)
	for _, page := range pages {
		x.a.Rights(page)
		for _, count := range counts {
			x.a.Mapped(page, count)
		}
	}
	x.a.Len()
	x.a.Runs()
	x.a.Copy()
	x.want(t, "looks")
}

func TestP13_3RunsTwice(t *testing.T) {
	x := made(t, run(5, 5, 1), run(20, 5, 2))
	runs := x.a.Runs()
	for range 2 {
		if got := slices.Collect(runs); !slices.Equal(got, []api.Run{run(5, 5, 1), run(20, 5, 2)}) {
			t.Errorf("Runs: %v", got)
		}
	}
	// They are told as they are then, though they were asked for before.
	x.wantMap(t, 10, 1, 1, api.OK)
	x.wantUnmap(t, 20, 5, api.OK)
	x.wantMap(t, 0, 1, 3, api.OK)
	if got := slices.Collect(runs); !slices.Equal(got, []api.Run{run(0, 1, 3), run(5, 6, 1)}) {
		t.Errorf("Runs behind other calls: %v", got)
	}
	x.wantUnmap(t, 0, 1024, api.OK)
	if got := slices.Collect(runs); len(got) != 0 {
		t.Errorf("Runs of none: %v", got)
	}
}

func TestP13_3RunsBrokenOff(t *testing.T) {
	x := made(t, run(1, 1, 1), run(3, 2, 2), run(5, 1, 3), run(9, 3, 1))
	for many := 1; many <= 4; many++ {
		told := 0
		x.a.Runs()(func(api.Run) bool {
			told++
			return told < many
		})
		if told != many {
			t.Errorf("broken off behind %d: told %d", many, told)
		}
	}
	for r := range x.a.Runs() {
		if r != run(1, 1, 1) {
			t.Errorf("the first one: %v", r)
		}
		break
	}
	x.want(t, "broken off")
}

// Whoever is told a run may turn the areas: what is told behind it is as it was when the telling began.
func TestP13_3RunsTurnedMeanwhile(t *testing.T) {
	l := []api.Run{run(1, 1, 1), run(3, 2, 2), run(5, 1, 3), run(9, 3, 1)}
	for _, c := range []call{
		{"Unmap", 0, 1024, 0}, {"Unmap", 0, 3, 0}, {"Unmap", 4, 7, 0}, {"Unmap", 10, 1, 0}, {"Map", 0, 1, 1}, {"Map", 2, 1, 3}, {"Map", 20, 9, 2}, {"Map", 12, 1, 1},
		{"Protect", 3, 3, 1}, {"Protect", 9, 1, 2}, {"Map", 3, 1, 1}, {"Protect", 0, 2, 3},
	} {
		for at := range l {
			x := made(t, l...)
			var got []api.Run
			for r := range x.a.Runs() {
				if len(got) == at {
					x.hold(t, c)
				}
				got = append(got, r)
			}
			if !slices.Equal(got, l) {
				t.Errorf("%s(%d, %d, %d) behind %d told: %v", c.name, c.page, c.count, c.rights, at, got)
			}
			x.want(t, "turned meanwhile")
		}
	}
}

// Each run that is told is unmapped, and mapped with other rights; a Runs within a Runs tells what is there then.
func TestP13_3RunsWithinRuns(t *testing.T) {
	x := wide(t)
	n := 0
	for r := range x.a.Runs() {
		if r != run(5*n, 5, uint8(1+n%2)) {
			t.Errorf("the run %d: %v", n, r)
		}
		x.hold(t, call{"Unmap", r.Page, r.Count, 0})
		x.hold(t, call{"Map", r.Page, r.Count, 3})
		n++
	}
	if n != 32 {
		t.Errorf("%d told, not 32", n)
	}
	x.wantTold(t, run(0, 160, 3))
}

func TestP13_3Len(t *testing.T) {
	x := made(t)
	for i := range maxRuns {
		if x.a.Len() != i {
			t.Errorf("Len: %d, not %d", x.a.Len(), i)
		}
		x.wantMap(t, 1023-3*i, 1, 2, api.OK)
	}
	for i := range maxRuns {
		if x.a.Len() != 32-i {
			t.Errorf("Len: %d, not %d", x.a.Len(), 32-i)
		}
		x.wantUnmap(t, 1023-3*i, 1, api.OK)
	}
}

func TestP13_3Copy(t *testing.T) {
	for _, x := range append(begun(t), full(t), wide(t)) {
		y := both{x.a.Copy(), x.other(t).m}
		if y.a == nil || y.a == x.a {
			t.Fatal("Copy is not another one")
		}
		y.want(t, "a copy")
		y.wantUnmap(t, 0, 8, api.OK)
		y.wantUnmap(t, 1020, 4, api.OK)
		x.want(t, "what was copied")
		z := both{x.a.Copy(), x.other(t).m}
		x.wantUnmap(t, 0, 1024, api.OK)
		x.wantMap(t, 3, 9, 2, api.OK)
		x.wantProtect(t, 5, 2, 1, api.OK)
		y.want(t, "a copy that goes its own way")
		z.want(t, "a copy of what was turned")
		z.wantMapped(t, 0, 1024, z.m.all(0, 1024))
	}
}

// A copy tells its own runs, whichever of both is turned while it does.
func TestP13_3CopyToldMeanwhile(t *testing.T) {
	x := made(t, run(1, 1, 1), run(3, 1, 2))
	y := both{x.a.Copy(), x.other(t).m}
	var got []api.Run
	for r := range y.a.Runs() {
		x.hold(t, call{"Unmap", 0, 1024, 0})
		got = append(got, r)
	}
	if !slices.Equal(got, []api.Run{run(1, 1, 1), run(3, 1, 2)}) {
		t.Errorf("the copy's runs: %v", got)
	}
	y.want(t, "a copy")
}

func TestNotThere(t *testing.T) {
	var a *areas.Areas
	for _, page := range pages {
		for _, count := range counts {
			for _, rights := range []uint8{0, 1, 2, 3, 4, 255} {
				for _, e := range []api.Errno{a.Map(page, count, rights), a.Unmap(page, count), a.Protect(page, count, rights), a.Mapped(page, count)} {
					if e != api.ErrNil {
						t.Errorf("of %d, %d, %d: error %d", page, count, rights, e)
					}
				}
			}
		}
		wantRights(t, a, page, 0)
	}
	if a.Len() != 0 || a.Copy() != nil {
		t.Error("Len or Copy of what is not there")
	}
	if a.Runs() == nil {
		t.Fatal("Runs: nil")
	}
	for r := range a.Runs() {
		t.Errorf("Runs tells %v", r)
	}
}

func TestZeroOnes(t *testing.T) {
	var a areas.Areas
	x := both{&a, &plain{}}
	x.want(t, "zero ones")
	if a.Runs() == nil {
		t.Fatal("Runs: nil")
	}
	y := both{a.Copy(), &plain{}}
	if y.a == nil || y.a == &a {
		t.Fatal("Copy is not another one")
	}
	y.want(t, "a copy of zero ones")
	x.wantMapped(t, 0, 1, api.ErrNone)
	x.wantProtect(t, 0, 1, 1, api.ErrNone)
	x.wantUnmap(t, 0, 1024, api.OK)
	x.wantMap(t, 0, 0, 1, api.ErrArg)
	x.wantMap(t, 0, 1024, 1, api.OK)
	x.wantMap(t, 5, 1, 1, api.ErrTwice)
	y.want(t, "a copy of zero ones")
	y.wantMap(t, 3, 4, 2, api.OK)
	x.wantTold(t, run(0, 1024, 1))
}

// No areas hang on others: what new ones tell is theirs alone.
func TestApart(t *testing.T) {
	x, y := made(t), made(t)
	x.wantMap(t, 0, 5, 1, api.OK)
	y.wantMap(t, 3, 5, 2, api.OK)
	x.wantTold(t, run(0, 5, 1))
	y.wantTold(t, run(3, 5, 2))
}
