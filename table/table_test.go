package table_test

import (
	"math"
	"slices"
	"testing"

	"byre/api"
	"byre/config"
	"byre/frames"
	"byre/table"
)

// What the chapter names, in its own numbers.
const (
	mostN    = 65535
	maxPages = 1024
	perLeaf  = 32
)

// numbers are Ns of entries, and leaves, those that may be and others.
var numbers = []int{
	math.MinInt, math.MinInt + 1, math.MinInt + 5, -1 << 62, 1 - 1<<62, -1 << 32, 1 - 1<<32, -65536, -65535, -4, -3, -2, -1,
	0, 1, 2, 3, 4, 5, 31, 32, 255, 256, 16383, 16384, 32767, 32768, 65534, 65535,
	65536, 65537, 65541, 1 << 17, 1 << 18, 1<<31 - 1, 1 << 31, 1 << 32, 1<<32 + 1, 1<<32 + 65535, 1 << 61, 1<<62 - 1, 1 << 62, 1<<62 + 5, math.MaxInt - 1, math.MaxInt,
}

// pages are pages, those that may be and others.
var pages = []int{
	math.MinInt, math.MinInt + 1, math.MinInt + 1023, -1 << 32, 1 - 1<<32, -1024, -1023, -33, -32, -31, -2, -1,
	0, 1, 2, 30, 31, 32, 33, 62, 63, 64, 511, 512, 991, 992, 1022, 1023,
	1024, 1025, 1055, 1056, 2047, 2048, 1 << 16, 1 << 32, 1<<32 + 1, math.MaxInt - 1, math.MaxInt,
}

// noEntries are words that are no entry's.
var noEntries = []uint64{
	4, 8, 12, 4 * 65535, 4 * 65536, 4*65536 + 1, 4*65536 + 2, 4*65536 + 3, 1 << 32, 1<<32 + 1, 1<<32 + 4*5 + 1,
	1 << 62, 1<<62 + 1, 1 << 63, 1<<63 + 1, 1<<63 + 4*2 + 1, math.MaxUint64 - 2, math.MaxUint64 - 1, math.MaxUint64,
}

// notOfLeaves are words that are entries', but none that a root may have.
var notOfLeaves = []uint64{2, 3, 4*2 + 2, 4*2 + 3, 4*65535 + 2, 4*65535 + 3}

// entry is an entry, written shortly.
func entry(kind uint8, n int) api.Entry {
	return api.Entry{Kind: kind, N: n}
}

// entryMay tells whether there may be the entry.
func entryMay(x api.Entry) bool {
	if x.Kind == 0 {
		return x.N == 0
	}
	return x.Kind < 4 && x.N > -1 && x.N < 65536
}

// wordOf is the word of an entry that may be.
func wordOf(x api.Entry) uint64 {
	return uint64(x.Kind) + 4*uint64(x.N)
}

// entryOf is the entry that has the word, if one has.
func entryOf(w uint64) (api.Entry, bool) {
	if w/4 > mostN || w%4 == 0 && w > 0 {
		return api.Entry{}, false
	}
	return entry(uint8(w%4), int(w/4)), true
}

// wantWord holds what Word answers against what it is to answer.
func wantWord(t *testing.T, x api.Entry, w uint64, err api.Errno) {
	t.Helper()
	if got, e := table.Word(x); got != w || e != err {
		t.Errorf("Word(%d %d): %d, error %d; not %d, error %d", x.Kind, x.N, got, e, w, err)
	}
}

// wantEntry holds what Entry answers against what it is to answer.
func wantEntry(t *testing.T, w uint64, x api.Entry, err api.Errno) {
	t.Helper()
	if got, e := table.Entry(w); got != x || e != err {
		t.Errorf("Entry(%d): %d %d, error %d; not %d %d, error %d", w, got.Kind, got.N, e, x.Kind, x.N, err)
	}
}

// wantRead holds what Entry answers of a word against the plain reading of it, and what Word makes of the entry against the word.
func wantRead(t *testing.T, w uint64) {
	t.Helper()
	x, ok := entryOf(w)
	if !ok {
		wantEntry(t, w, api.Entry{}, api.ErrForm)
		return
	}
	wantEntry(t, w, x, api.OK)
	wantWord(t, x, w, api.OK)
}

func TestP14_1Examples(t *testing.T) {
	wantWord(t, entry(api.EntryFrame, 5), 21, api.OK)
	wantWord(t, entry(api.EntrySlot, 3), 14, api.OK)
	wantEntry(t, 4, api.Entry{}, api.ErrForm)
	wantEntry(t, 0, api.Entry{}, api.OK)
}

func TestP14_1Word(t *testing.T) {
	for _, x := range []struct {
		entry api.Entry
		word  uint64
		err   api.Errno
	}{
		{entry(0, 0), 0, api.OK},
		{entry(0, 1), 0, api.ErrArg},
		{entry(0, -1), 0, api.ErrArg},
		{entry(0, 65535), 0, api.ErrArg},
		{entry(0, 1<<62), 0, api.ErrArg},
		{entry(1, 0), 1, api.OK},
		{entry(1, 1), 5, api.OK},
		{entry(1, 65535), 262141, api.OK},
		{entry(1, 65536), 0, api.ErrArg},
		{entry(1, -1), 0, api.ErrArg},
		{entry(1, 1<<62), 0, api.ErrArg},
		{entry(2, 0), 2, api.OK},
		{entry(2, 1), 6, api.OK},
		{entry(2, 65535), 262142, api.OK},
		{entry(2, 65536), 0, api.ErrArg},
		{entry(2, math.MaxInt), 0, api.ErrArg},
		{entry(3, 0), 3, api.OK},
		{entry(3, 1), 7, api.OK},
		{entry(3, 65535), 262143, api.OK},
		{entry(3, 65536), 0, api.ErrArg},
		{entry(3, math.MinInt), 0, api.ErrArg},
		{entry(4, 0), 0, api.ErrArg},
		{entry(4, 1), 0, api.ErrArg},
		{entry(5, 0), 0, api.ErrArg},
		{entry(255, 0), 0, api.ErrArg},
		{entry(255, 65535), 0, api.ErrArg},
	} {
		wantWord(t, x.entry, x.word, x.err)
	}
}

func TestP14_1WordOfAllKinds(t *testing.T) {
	for kind := range 256 {
		for _, n := range numbers {
			x := entry(uint8(kind), n)
			if entryMay(x) {
				wantWord(t, x, wordOf(x), api.OK)
			} else {
				wantWord(t, x, 0, api.ErrArg)
			}
		}
	}
}

func TestP14_1Entry(t *testing.T) {
	for _, x := range []struct {
		word  uint64
		entry api.Entry
		err   api.Errno
	}{
		{0, entry(0, 0), api.OK},
		{1, entry(1, 0), api.OK},
		{2, entry(2, 0), api.OK},
		{3, entry(3, 0), api.OK},
		{4, entry(0, 0), api.ErrForm},
		{5, entry(1, 1), api.OK},
		{8, entry(0, 0), api.ErrForm},
		{262140, entry(0, 0), api.ErrForm},
		{262141, entry(1, 65535), api.OK},
		{262142, entry(2, 65535), api.OK},
		{262143, entry(3, 65535), api.OK},
		{262144, entry(0, 0), api.ErrForm},
		{262145, entry(0, 0), api.ErrForm},
		{262146, entry(0, 0), api.ErrForm},
		{262147, entry(0, 0), api.ErrForm},
		{math.MaxUint64, entry(0, 0), api.ErrForm},
	} {
		wantEntry(t, x.word, x.entry, x.err)
	}
}

// Each word up to twice the greatest one that is an entry's.
func TestP14_1EntryOfAll(t *testing.T) {
	for w := range uint64(8 * 65536) {
		wantRead(t, w)
	}
}

// A high bit, alone or with low ones, makes a word none.
func TestP14_1EntryOfHighBits(t *testing.T) {
	for n := 18; n < 64; n++ {
		for _, low := range []uint64{0, 1, 2, 3, 4, 5, 21, 14, 262140, 262141, 262142, 262143} {
			wantEntry(t, 1<<n+low, api.Entry{}, api.ErrForm)
			wantEntry(t, math.MaxUint64<<n+low, api.Entry{}, api.ErrForm)
		}
	}
	for _, w := range noEntries {
		wantEntry(t, w, api.Entry{}, api.ErrForm)
	}
}

func TestP14_1EntryOfWord(t *testing.T) {
	wantEntry(t, 0, api.Entry{}, api.OK)
	for kind := uint8(1); kind < 4; kind++ {
		for n := range mostN + 1 {
			x := entry(kind, n)
			w, e := table.Word(x)
			if e != api.OK {
				t.Fatalf("Word(%d %d): error %d", kind, n, e)
			}
			wantEntry(t, w, x, api.OK)
		}
	}
}

// Nothing is kept: what is wrong in between changes no later answer.
func TestP14_1AskedAgain(t *testing.T) {
	for range 3 {
		wantWord(t, entry(0, 5), 0, api.ErrArg)
		wantWord(t, entry(1, 5), 21, api.OK)
		wantEntry(t, 20, api.Entry{}, api.ErrForm)
		wantEntry(t, 14, entry(2, 3), api.OK)
	}
}

// both are a memory and plain rows of words, one a frame, that are to be as it is. A memory that is not there has no rows.
type both struct {
	m    *frames.Memory
	rows [][perLeaf]uint64
}

// made is a memory with so many frames of noughts.
func made(t *testing.T, many int) both {
	t.Helper()
	m, e := frames.New(config.Least(many))
	if m == nil || e != api.OK || m.Frames() != many {
		t.Fatalf("New: %v, error %d", m, e)
	}
	for frame := range many {
		if e := m.SetMark(frame, markOf(frame)); e != api.OK {
			t.Fatalf("SetMark: error %d", e)
		}
	}
	return both{m, make([][perLeaf]uint64, many)}
}

// notThere are memories that are not there, or were not made.
func notThere() []both {
	return []both{{}, {m: &frames.Memory{}}}
}

// markOf is a mark that is no other frame's.
func markOf(frame int) api.Mark {
	return api.Mark{Role: api.RoleTable, Owner: frame, Page: 2 * frame, Index: 3 * frame}
}

// put writes a word to the frame, whatever is in it.
func (x both) put(t *testing.T, frame, i int, w uint64) {
	t.Helper()
	if e := x.m.SetWord(frame, i, w); e != api.OK {
		t.Fatalf("SetWord: error %d", e)
	}
	x.rows[frame][i] = w
}

// want holds all words and marks of the memory against what they are to be.
func (x both) want(t *testing.T, what string) {
	t.Helper()
	for frame, row := range x.rows {
		for i, w := range row {
			if got, e := x.m.Word(frame, i); got != w || e != api.OK {
				t.Fatalf("%s: the word %d of the frame %d: %d, error %d; not %d", what, i, frame, got, e, w)
			}
		}
		if mark, e := x.m.Mark(frame); mark != markOf(frame) || e != api.OK {
			t.Fatalf("%s: the mark of the frame %d: %v, error %d", what, frame, mark, e)
		}
	}
}

// asked is what layer 3 is to tell of a frame.
func (x both) asked(frame int) api.Errno {
	switch {
	case len(x.rows) == 0:
		return api.ErrNil
	case frame < 0 || frame >= len(x.rows):
		return api.ErrNone
	}
	return api.OK
}

// leafEntry is what the root says of a page's leaf.
func (x both) leafEntry(root, page int) (api.Entry, api.Errno) {
	if page < 0 || page >= maxPages {
		return api.Entry{}, api.ErrArg
	}
	if e := x.asked(root); e != api.OK {
		return api.Entry{}, e
	}
	its, ok := entryOf(x.rows[root][page/perLeaf])
	if !ok || its.Kind > 1 {
		return api.Entry{}, api.ErrForm
	}
	return its, api.OK
}

// leaf is what Leaf is to answer.
func (x both) leaf(root, page int) (int, api.Errno) {
	its, e := x.leafEntry(root, page)
	if e == api.OK && its.Kind == 0 {
		e = api.ErrNone
	}
	return its.N, e
}

// setLeaf is what SetLeaf is to answer, and to do.
func (x both) setLeaf(root, page, leaf int) api.Errno {
	if page < 0 || page >= maxPages || leaf < -1 || leaf > mostN {
		return api.ErrArg
	}
	if e := x.asked(root); e != api.OK {
		return e
	}
	x.rows[root][page/perLeaf] = 0
	if leaf > -1 {
		x.rows[root][page/perLeaf] = 1 + 4*uint64(leaf)
	}
	return api.OK
}

// get is what Get is to answer.
func (x both) get(root, page int) (api.Entry, api.Errno) {
	its, e := x.leafEntry(root, page)
	if e != api.OK || its.Kind == 0 {
		return api.Entry{}, e
	}
	if e := x.asked(its.N); e != api.OK {
		return api.Entry{}, e
	}
	of, ok := entryOf(x.rows[its.N][page%perLeaf])
	if !ok {
		return api.Entry{}, api.ErrForm
	}
	return of, api.OK
}

// set is what Set is to answer, and to do.
func (x both) set(root, page int, of api.Entry) api.Errno {
	if page < 0 || page >= maxPages || !entryMay(of) {
		return api.ErrArg
	}
	leaf, e := x.leaf(root, page)
	if e != api.OK {
		return e
	}
	if e := x.asked(leaf); e != api.OK {
		return e
	}
	x.rows[leaf][page%perLeaf] = wordOf(of)
	return api.OK
}

// wantLeaf holds what Leaf answers against what it is to answer.
func wantLeaf(t *testing.T, m *frames.Memory, root, page, leaf int, err api.Errno) {
	t.Helper()
	if got, e := table.Leaf(m, root, page); got != leaf || e != err {
		t.Errorf("Leaf(%d, %d): %d, error %d; not %d, error %d", root, page, got, e, leaf, err)
	}
}

// wantGet holds what Get answers against what it is to answer.
func wantGet(t *testing.T, m *frames.Memory, root, page int, x api.Entry, err api.Errno) {
	t.Helper()
	if got, e := table.Get(m, root, page); got != x || e != err {
		t.Errorf("Get(%d, %d): %v, error %d; not %v, error %d", root, page, got, e, x, err)
	}
}

// wantErr holds an error against the one that is to be told.
func wantErr(t *testing.T, what string, root, page int, got, want api.Errno) {
	t.Helper()
	if got != want {
		t.Errorf("%s(%d, %d): error %d, not %d", what, root, page, got, want)
	}
}

// holdReads holds what Leaf and Get answer of the page against the rows.
func (x both) holdReads(t *testing.T, root, page int) {
	t.Helper()
	leaf, e := x.leaf(root, page)
	wantLeaf(t, x.m, root, page, leaf, e)
	of, e := x.get(root, page)
	wantGet(t, x.m, root, page, of, e)
}

// holdSetLeaf turns the page's leaf, in the memory and in the rows.
func (x both) holdSetLeaf(t *testing.T, root, page, leaf int) {
	t.Helper()
	err := x.setLeaf(root, page, leaf)
	wantErr(t, "SetLeaf", root, page, table.SetLeaf(x.m, root, page, leaf), err)
}

// holdSet turns the page's entry, in the memory and in the rows.
func (x both) holdSet(t *testing.T, root, page int, of api.Entry) {
	t.Helper()
	err := x.set(root, page, of)
	wantErr(t, "Set", root, page, table.Set(x.m, root, page, of), err)
}

// full is a memory with 40 frames, of which 3 is the root, and with a leaf for each page: the 32 frames from 5 on, from the last one down.
func full(t *testing.T) both {
	t.Helper()
	x := made(t, 40)
	for i := range perLeaf {
		x.holdSetLeaf(t, 3, i*perLeaf+i, 36-i)
	}
	x.want(t, "a root with all leaves")
	return x
}

func TestP14_2Examples(t *testing.T) {
	x := made(t, 4)
	for _, page := range []int{0, 31, 32, 40, 1023} {
		wantGet(t, x.m, 0, page, api.Entry{}, api.OK)
		wantErr(t, "Set", 0, page, table.Set(x.m, 0, page, entry(api.EntryFrame, 3)), api.ErrNone)
	}
	x.want(t, "a Set without a leaf")
}

// The bytes themselves: which word of which frame says what.
func TestP14_2Words(t *testing.T) {
	x := made(t, 6)
	for _, c := range []struct{ page, leaf, word int }{{0, 2, 0}, {31, 2, 0}, {32, 3, 1}, {40, 3, 1}, {63, 3, 1}, {992, 4, 31}, {1023, 4, 31}} {
		wantErr(t, "SetLeaf", 1, c.page, table.SetLeaf(x.m, 1, c.page, c.leaf), api.OK)
		x.rows[1][c.word] = 4*uint64(c.leaf) + 1
		x.want(t, "SetLeaf")
		wantLeaf(t, x.m, 1, c.page, c.leaf, api.OK)
	}
	for _, c := range []struct {
		page, leaf, word int
		of               api.Entry
	}{
		{0, 2, 0, entry(1, 5)}, {31, 2, 31, entry(2, 3)}, {32, 3, 0, entry(3, 65535)}, {40, 3, 8, entry(1, 0)},
		{63, 3, 31, entry(2, 0)}, {992, 4, 0, entry(3, 0)}, {1023, 4, 31, entry(1, 65535)},
	} {
		wantErr(t, "Set", 1, c.page, table.Set(x.m, 1, c.page, c.of), api.OK)
		x.rows[c.leaf][c.word] = 4*uint64(c.of.N) + uint64(c.of.Kind)
		x.want(t, "Set")
		wantGet(t, x.m, 1, c.page, c.of, api.OK)
	}
}

// What Leaf, Get, SetLeaf and Set tell of each page, each root and each leaf or entry, those that may be and others; and what they do.
func TestP14_2All(t *testing.T) {
	roots := []int{math.MinInt, -1 << 32, -1, 0, 1, 4, 5, 6, 39, 40, 41, 128, 65535, 1 << 32, 1 << 56, 1<<56 + 3, 1 << 59, math.MaxInt}
	all := []both{full(t), messy(t), made(t, 4)}
	for _, x := range append(all, notThere()...) {
		for _, root := range append(roots, 3) {
			for _, page := range pages {
				x.holdReads(t, root, page)
				for _, n := range numbers {
					// What may be set is set in tests of its own: here all is to stay as it is made.
					if n < -1 || n > mostN || x.asked(root) != api.OK || page < 0 || page >= maxPages {
						x.holdSetLeaf(t, root, page, n)
					}
					for _, kind := range []uint8{0, 1, 2, 3, 4, 5, 128, 255} {
						_, e := x.leaf(root, page)
						if of := entry(kind, n); e != api.OK || !entryMay(of) {
							x.holdSet(t, root, page, of)
						}
					}
				}
			}
		}
		x.want(t, "what was refused")
	}
}

// messy is a memory with eight frames, the root of which, 3, has words that are a leaf's, none, another kind's, no entry's, and of a frame that there is not, by turns.
func messy(t *testing.T) both {
	t.Helper()
	x := made(t, 8)
	for i := range perLeaf {
		l := []uint64{4*5 + 1, 0, 4*5 + 2, 4*5 + 3, 4 * 5, 4*6 + 1, 4*8 + 1, 4*65535 + 1, 4*65536 + 1, math.MaxUint64, 1<<63 + 4*5 + 1}
		x.put(t, 3, i, l[(i+7)%len(l)])
		x.put(t, 5, i, l[i%len(l)])
		x.put(t, 6, i, l[(i+5)%len(l)])
	}
	return x
}

func TestP14_2WrongPages(t *testing.T) {
	x := full(t)
	for _, page := range []int{math.MinInt, -32, -1, 1024, 1055, math.MaxInt} {
		wantLeaf(t, x.m, 3, page, 0, api.ErrArg)
		wantGet(t, x.m, 3, page, api.Entry{}, api.ErrArg)
		wantErr(t, "SetLeaf", 3, page, table.SetLeaf(x.m, 3, page, 5), api.ErrArg)
		wantErr(t, "SetLeaf", 3, page, table.SetLeaf(x.m, 3, page, -1), api.ErrArg)
		wantErr(t, "Set", 3, page, table.Set(x.m, 3, page, entry(1, 5)), api.ErrArg)
		wantErr(t, "Set", 3, page, table.Set(x.m, 3, page, api.Entry{}), api.ErrArg)
	}
	x.want(t, "what was refused")
}

func TestP14_2WrongLeaves(t *testing.T) {
	x := full(t)
	for _, leaf := range []int{math.MinInt, math.MinInt + 5, -1 << 62, -65536, -3, -2, 65536, 65537, 1 << 32, 1 << 62, 1<<62 + 5, math.MaxInt} {
		for _, page := range []int{0, 31, 32, 1023} {
			wantErr(t, "SetLeaf", 3, page, table.SetLeaf(x.m, 3, page, leaf), api.ErrArg)
		}
	}
	x.want(t, "what was refused")
}

func TestP14_2WrongEntries(t *testing.T) {
	x := full(t)
	for _, of := range []api.Entry{
		entry(0, 1), entry(0, -1), entry(0, 65535), entry(0, 1<<62), entry(1, -1), entry(1, 65536), entry(2, math.MinInt), entry(2, math.MaxInt),
		entry(3, 1<<62), entry(3, -1<<62), entry(4, 0), entry(4, 5), entry(255, 0),
	} {
		for _, page := range []int{0, 31, 32, 1023} {
			wantErr(t, "Set", 3, page, table.Set(x.m, 3, page, of), api.ErrArg)
		}
	}
	x.want(t, "what was refused")
}

func TestP14_2WrongRoots(t *testing.T) {
	x := full(t)
	for _, root := range []int{math.MinInt, -1, 40, 41, 65535, 1 << 56, 1<<56 + 3, math.MaxInt} {
		for _, page := range []int{0, 31, 32, 1023} {
			wantLeaf(t, x.m, root, page, 0, api.ErrNone)
			wantGet(t, x.m, root, page, api.Entry{}, api.ErrNone)
			wantErr(t, "SetLeaf", root, page, table.SetLeaf(x.m, root, page, 5), api.ErrNone)
			wantErr(t, "SetLeaf", root, page, table.SetLeaf(x.m, root, page, -1), api.ErrNone)
			wantErr(t, "Set", root, page, table.Set(x.m, root, page, entry(1, 5)), api.ErrNone)
		}
	}
	x.want(t, "what was refused")
}

func TestP14_2NotThere(t *testing.T) {
	for _, x := range notThere() {
		for _, root := range []int{math.MinInt, -1, 0, 3, 128, math.MaxInt} {
			for _, page := range []int{0, 31, 32, 1023} {
				wantLeaf(t, x.m, root, page, 0, api.ErrNil)
				wantGet(t, x.m, root, page, api.Entry{}, api.ErrNil)
				wantErr(t, "SetLeaf", root, page, table.SetLeaf(x.m, root, page, 5), api.ErrNil)
				wantErr(t, "SetLeaf", root, page, table.SetLeaf(x.m, root, page, -1), api.ErrNil)
				wantErr(t, "Set", root, page, table.Set(x.m, root, page, entry(1, 5)), api.ErrNil)
				wantErr(t, "Set", root, page, table.Set(x.m, root, page, api.Entry{}), api.ErrNil)
			}
		}
	}
}

// What may not be is told ahead of what layer 3 tells, of what can't be read, and of a leaf that is not there.
func TestP14_2ArgFirst(t *testing.T) {
	x := made(t, 4)
	x.put(t, 1, 0, 4)
	x.put(t, 2, 0, 4*99+1)
	type at struct {
		m    *frames.Memory
		root int
	}
	places := []at{{nil, 0}, {nil, -1}, {&frames.Memory{}, 0}, {x.m, -1}, {x.m, 4}, {x.m, math.MaxInt}, {x.m, 0}, {x.m, 1}, {x.m, 2}}
	for _, p := range places {
		for _, page := range []int{math.MinInt, -1, 1024, math.MaxInt} {
			wantLeaf(t, p.m, p.root, page, 0, api.ErrArg)
			wantGet(t, p.m, p.root, page, api.Entry{}, api.ErrArg)
			wantErr(t, "SetLeaf", p.root, page, table.SetLeaf(p.m, p.root, page, 1), api.ErrArg)
			wantErr(t, "SetLeaf", p.root, page, table.SetLeaf(p.m, p.root, page, -2), api.ErrArg)
			wantErr(t, "Set", p.root, page, table.Set(p.m, p.root, page, entry(1, 1)), api.ErrArg)
			wantErr(t, "Set", p.root, page, table.Set(p.m, p.root, page, entry(4, 1)), api.ErrArg)
		}
		for _, page := range []int{0, 31} {
			wantErr(t, "SetLeaf", p.root, page, table.SetLeaf(p.m, p.root, page, -2), api.ErrArg)
			wantErr(t, "SetLeaf", p.root, page, table.SetLeaf(p.m, p.root, page, 65536), api.ErrArg)
			wantErr(t, "Set", p.root, page, table.Set(p.m, p.root, page, entry(0, 1)), api.ErrArg)
			wantErr(t, "Set", p.root, page, table.Set(p.m, p.root, page, entry(4, 0)), api.ErrArg)
			wantErr(t, "Set", p.root, page, table.Set(p.m, p.root, page, entry(1, 65536)), api.ErrArg)
		}
	}
	x.want(t, "what was refused")
}

// Words of the root that are no entry's, or an entry's of another kind.
func TestP14_2FormOfRoot(t *testing.T) {
	for _, w := range slices.Concat(noEntries, notOfLeaves) {
		for _, page := range []int{0, 31, 32, 63, 1023} {
			x := full(t)
			x.put(t, 3, page/perLeaf, w)
			wantLeaf(t, x.m, 3, page, 0, api.ErrForm)
			wantGet(t, x.m, 3, page, api.Entry{}, api.ErrForm)
			wantErr(t, "Set", 3, page, table.Set(x.m, 3, page, entry(1, 5)), api.ErrForm)
			wantErr(t, "Set", 3, page, table.Set(x.m, 3, page, api.Entry{}), api.ErrForm)
			x.want(t, "what was refused")
			// The other leaves are asked for as ever; and SetLeaf reads no word.
			x.holdReads(t, 3, 100)
			x.holdSetLeaf(t, 3, page, 7)
			x.want(t, "SetLeaf")
			wantLeaf(t, x.m, 3, page, 7, api.OK)
		}
	}
}

// Words of a leaf that are no entry's: of Get alone, as Set reads none of them.
func TestP14_2FormOfLeaf(t *testing.T) {
	for _, w := range noEntries {
		for _, page := range []int{0, 31, 32, 63, 1023} {
			x := full(t)
			leaf := 36 - page/perLeaf
			x.put(t, leaf, page%perLeaf, w)
			wantLeaf(t, x.m, 3, page, leaf, api.OK)
			wantGet(t, x.m, 3, page, api.Entry{}, api.ErrForm)
			x.want(t, "Get")
			x.holdReads(t, 3, page^1)
			x.holdSet(t, 3, page, entry(2, 9))
			x.want(t, "Set")
			wantGet(t, x.m, 3, page, entry(2, 9), api.OK)
		}
	}
}

// In a leaf entries of each kind may stand.
func TestP14_2KindsOfLeaf(t *testing.T) {
	x := full(t)
	for _, w := range append(notOfLeaves, 0, 1, 5, 4*65535+1) {
		for _, page := range []int{0, 31, 32, 63, 1023} {
			x.put(t, 36-page/perLeaf, page%perLeaf, w)
			wantGet(t, x.m, 3, page, entry(uint8(w%4), int(w/4)), api.OK)
		}
	}
}

// A root may name a frame that the memory doesn't have: it is the leaf, but can't be asked.
func TestP14_2LeafIsNoFrame(t *testing.T) {
	for _, leaf := range []int{4, 5, 128, 65535} {
		for _, page := range []int{0, 31, 32, 1023} {
			x := made(t, 4)
			x.holdSetLeaf(t, 0, page, leaf)
			wantLeaf(t, x.m, 0, page, leaf, api.OK)
			wantGet(t, x.m, 0, page, api.Entry{}, api.ErrNone)
			wantErr(t, "Set", 0, page, table.Set(x.m, 0, page, entry(1, 2)), api.ErrNone)
			wantErr(t, "Set", 0, page, table.Set(x.m, 0, page, api.Entry{}), api.ErrNone)
			x.want(t, "a leaf that is no frame")
			x.holdSetLeaf(t, 0, page, 2)
			x.holdSet(t, 0, page, entry(1, 2))
			x.want(t, "another leaf")
			wantGet(t, x.m, 0, page, entry(1, 2), api.OK)
		}
	}
}

func TestP14_2NoLeaf(t *testing.T) {
	x := full(t)
	for _, page := range []int{0, 40, 1023} {
		x.holdSetLeaf(t, 3, page, -1)
	}
	for _, page := range []int{0, 1, 31, 32, 40, 63, 992, 1023} {
		wantLeaf(t, x.m, 3, page, 0, api.ErrNone)
		wantGet(t, x.m, 3, page, api.Entry{}, api.OK)
		wantErr(t, "Set", 3, page, table.Set(x.m, 3, page, entry(1, 5)), api.ErrNone)
		wantErr(t, "Set", 3, page, table.Set(x.m, 3, page, api.Entry{}), api.ErrNone)
	}
	x.want(t, "what was refused")
	for _, page := range []int{64, 95, 991} {
		wantLeaf(t, x.m, 3, page, 36-page/perLeaf, api.OK)
	}
}

// A leaf is set, another one, none, and the first one again, which has kept its entries.
func TestP14_2SetLeaf(t *testing.T) {
	for _, page := range []int{0, 31, 32, 63, 512, 1023} {
		x := full(t)
		first := 36 - page/perLeaf
		x.holdSet(t, 3, page, entry(2, 77))
		x.holdSetLeaf(t, 3, page, 38)
		x.want(t, "another leaf")
		wantLeaf(t, x.m, 3, page, 38, api.OK)
		wantGet(t, x.m, 3, page, api.Entry{}, api.OK)
		x.holdSet(t, 3, page, entry(1, 1))
		x.holdSetLeaf(t, 3, page, -1)
		x.want(t, "no leaf")
		wantLeaf(t, x.m, 3, page, 0, api.ErrNone)
		wantGet(t, x.m, 3, page, api.Entry{}, api.OK)
		x.holdSetLeaf(t, 3, page, -1)
		x.holdSetLeaf(t, 3, page^7, first)
		x.want(t, "the first leaf")
		wantLeaf(t, x.m, 3, page, first, api.OK)
		wantGet(t, x.m, 3, page, entry(2, 77), api.OK)
	}
}

// Each leaf that may be, whether the memory has the frame or not.
func TestP14_2SetLeafOfAll(t *testing.T) {
	x := made(t, 4)
	for leaf := range mostN + 1 {
		page := leaf % maxPages
		x.holdSetLeaf(t, 1, page, leaf)
		wantLeaf(t, x.m, 1, page, leaf, api.OK)
		wantLeaf(t, x.m, 1, page/perLeaf*perLeaf+31, leaf, api.OK)
	}
	x.want(t, "SetLeaf")
}

// What is set is got again, of each page, and no other page's entry changes.
func TestP14_2SetAndGet(t *testing.T) {
	x := full(t)
	of := func(page int) api.Entry {
		return entry(uint8(page%4), 63*page*min(page%4, 1))
	}
	for i := range maxPages {
		page := i * 389 % maxPages
		x.holdSet(t, 3, page, of(page))
		x.want(t, "Set")
		wantGet(t, x.m, 3, page, of(page), api.OK)
	}
	for page := range maxPages {
		wantGet(t, x.m, 3, page, of(page), api.OK)
		wantLeaf(t, x.m, 3, page, 36-page/perLeaf, api.OK)
	}
}

// Two pages of one leaf, the same place in two leaves, the first and the last page.
func TestP14_2OtherPages(t *testing.T) {
	for _, two := range [][2]int{{0, 1}, {0, 31}, {31, 32}, {5, 37}, {0, 32}, {31, 63}, {0, 992}, {31, 1023}, {0, 1023}, {992, 1023}} {
		x := full(t)
		a, b := two[0], two[1]
		x.holdSet(t, 3, a, entry(1, 11))
		wantGet(t, x.m, 3, a, entry(1, 11), api.OK)
		wantGet(t, x.m, 3, b, api.Entry{}, api.OK)
		x.holdSet(t, 3, b, entry(3, 12))
		wantGet(t, x.m, 3, a, entry(1, 11), api.OK)
		wantGet(t, x.m, 3, b, entry(3, 12), api.OK)
		x.holdSet(t, 3, a, entry(2, 65535))
		wantGet(t, x.m, 3, a, entry(2, 65535), api.OK)
		wantGet(t, x.m, 3, b, entry(3, 12), api.OK)
		x.want(t, "both")
		x.holdSet(t, 3, a, api.Entry{})
		x.want(t, "one of both")
		wantGet(t, x.m, 3, a, api.Entry{}, api.OK)
		wantGet(t, x.m, 3, b, entry(3, 12), api.OK)
	}
}

// Two tables of one memory go their own ways.
func TestP14_2TwoRoots(t *testing.T) {
	x := made(t, 6)
	x.holdSetLeaf(t, 0, 40, 2)
	x.holdSetLeaf(t, 5, 40, 3)
	x.holdSet(t, 0, 40, entry(1, 7))
	wantGet(t, x.m, 5, 40, api.Entry{}, api.OK)
	x.holdSet(t, 5, 40, entry(2, 8))
	wantGet(t, x.m, 0, 40, entry(1, 7), api.OK)
	wantGet(t, x.m, 5, 40, entry(2, 8), api.OK)
	x.holdSetLeaf(t, 0, 40, -1)
	wantGet(t, x.m, 5, 40, entry(2, 8), api.OK)
	x.want(t, "two tables")
}

// Whatever is called, of tables that may share leaves or be their own ones: as in rows of words.
func TestP14_2AllOver(t *testing.T) {
	seed := uint64(14)
	pick := func(many int) int {
		seed = seed*6364136223846793005 + 1442695040888963407
		return int(seed >> 33 % uint64(many))
	}
	for range 8 {
		x := made(t, 6)
		for range 4000 {
			root, page := pick(8)-1, pages[pick(len(pages))]
			switch pick(8) {
			case 0:
				x.holdSetLeaf(t, root, page, pick(9)-2)
			case 1:
				x.holdSetLeaf(t, root, page, numbers[pick(len(numbers))])
			case 2, 3:
				x.holdSet(t, root, page, entry(uint8(pick(4)), pick(8)))
			case 4:
				x.holdSet(t, root, page, entry(uint8(pick(256)), numbers[pick(len(numbers))]))
			default:
				x.holdReads(t, root, page)
			}
			x.want(t, "all over")
		}
		for root := -1; root < 7; root++ {
			x.wantTold(t, "all over", root)
		}
	}
}

// entries is what Entries is to tell.
func (x both) entries(root int) []api.Mapped {
	var l []api.Mapped
	for page := range maxPages {
		of, e := x.get(root, page)
		if e == api.OK && of.Kind > 0 {
			l = append(l, api.Mapped{Page: page, Entry: of})
		}
	}
	return l
}

// leaves is what Leaves is to tell.
func (x both) leaves(root int) []api.Leaf {
	var l []api.Leaf
	for i := range perLeaf {
		frame, e := x.leaf(root, perLeaf*i)
		if e == api.OK {
			l = append(l, api.Leaf{Index: i, Frame: frame})
		}
	}
	return l
}

// toldEntries is what Entries tells.
func toldEntries(m *frames.Memory, root int) []api.Mapped {
	var l []api.Mapped
	for page, of := range table.Entries(m, root) {
		l = append(l, api.Mapped{Page: page, Entry: of})
	}
	return l
}

// toldLeaves is what Leaves tells.
func toldLeaves(m *frames.Memory, root int) []api.Leaf {
	var l []api.Leaf
	for i, frame := range table.Leaves(m, root) {
		l = append(l, api.Leaf{Index: i, Frame: frame})
	}
	return l
}

// wantTold holds what Entries and Leaves tell against the rows.
func (x both) wantTold(t *testing.T, what string, root int) {
	t.Helper()
	wantEntries(t, what, x.m, root, x.entries(root)...)
	wantLeaves(t, what, x.m, root, x.leaves(root)...)
}

// wantEntries holds what Entries tells against what it is to tell.
func wantEntries(t *testing.T, what string, m *frames.Memory, root int, want ...api.Mapped) {
	t.Helper()
	if got := toldEntries(m, root); !slices.Equal(got, want) {
		t.Errorf("%s: Entries of %d: %v, not %v", what, root, got, want)
	}
}

// wantLeaves holds what Leaves tells against what it is to tell.
func wantLeaves(t *testing.T, what string, m *frames.Memory, root int, want ...api.Leaf) {
	t.Helper()
	if got := toldLeaves(m, root); !slices.Equal(got, want) {
		t.Errorf("%s: Leaves of %d: %v, not %v", what, root, got, want)
	}
}

// some is a memory with six frames, of which 1 is the root of a table with three leaves and six entries.
func some(t *testing.T) both {
	t.Helper()
	x := made(t, 6)
	x.holdSetLeaf(t, 1, 992, 2)
	x.holdSetLeaf(t, 1, 0, 4)
	x.holdSetLeaf(t, 1, 40, 0)
	for _, l := range someEntries() {
		x.holdSet(t, 1, l.Page, l.Entry)
	}
	return x
}

// someEntries are those of some.
func someEntries() []api.Mapped {
	return []api.Mapped{
		{Page: 0, Entry: entry(1, 5)}, {Page: 31, Entry: entry(2, 0)}, {Page: 32, Entry: entry(3, 65535)},
		{Page: 63, Entry: entry(1, 0)}, {Page: 992, Entry: entry(2, 3)}, {Page: 1023, Entry: entry(3, 0)},
	}
}

// someLeaves are those of some.
func someLeaves() []api.Leaf {
	return []api.Leaf{{Index: 0, Frame: 4}, {Index: 1, Frame: 0}, {Index: 31, Frame: 2}}
}

func TestP14_3Told(t *testing.T) {
	x := some(t)
	entries, leaves := table.Entries(x.m, 1), table.Leaves(x.m, 1)
	for range 3 {
		var got []api.Mapped
		for page, of := range entries {
			got = append(got, api.Mapped{Page: page, Entry: of})
		}
		if !slices.Equal(got, someEntries()) {
			t.Errorf("Entries: %v", got)
		}
		var l []api.Leaf
		for i, frame := range leaves {
			l = append(l, api.Leaf{Index: i, Frame: frame})
		}
		if !slices.Equal(l, someLeaves()) {
			t.Errorf("Leaves: %v", l)
		}
	}
	x.want(t, "what was told")
}

func TestP14_3OfNothing(t *testing.T) {
	x := made(t, 4)
	wantEntries(t, "noughts", x.m, 0)
	wantLeaves(t, "noughts", x.m, 0)
	x.holdSetLeaf(t, 0, 64, 3)
	wantEntries(t, "a leaf of noughts", x.m, 0)
	wantLeaves(t, "a leaf of noughts", x.m, 0, api.Leaf{Index: 2, Frame: 3})
	for _, root := range []int{math.MinInt, -1, 4, 5, 65535, 1 << 56, math.MaxInt} {
		wantEntries(t, "no frame", x.m, root)
		wantLeaves(t, "no frame", x.m, root)
	}
	for _, none := range notThere() {
		for _, root := range []int{math.MinInt, -1, 0, 3, math.MaxInt} {
			if table.Entries(none.m, root) == nil || table.Leaves(none.m, root) == nil {
				t.Fatal("a function to be ranged over is not there")
			}
			wantEntries(t, "no memory", none.m, root)
			wantLeaves(t, "no memory", none.m, root)
		}
	}
}

func TestP14_3OfAllPages(t *testing.T) {
	x := full(t)
	for i := range maxPages {
		page := i * 389 % maxPages
		x.holdSet(t, 3, page, entry(uint8(1+page%3), 60*page))
	}
	if l := toldEntries(x.m, 3); len(l) != maxPages || l[0].Page != 0 || l[1023].Page != 1023 {
		t.Errorf("Entries: %d", len(l))
	}
	if l := toldLeaves(x.m, 3); len(l) != perLeaf || l[0] != (api.Leaf{Index: 0, Frame: 36}) || l[31] != (api.Leaf{Index: 31, Frame: 5}) {
		t.Errorf("Leaves: %v", l)
	}
	x.wantTold(t, "all pages", 3)
	for page := range maxPages {
		if page%5 > 0 && page/perLeaf%3 > 0 {
			x.holdSet(t, 3, page, api.Entry{})
		}
	}
	x.wantTold(t, "some pages", 3)
	x.want(t, "what was told")
}

// What can't be read is passed by: what stands behind it is told all the same.
func TestP14_3PassedBy(t *testing.T) {
	for _, w := range noEntries {
		x := some(t)
		x.put(t, 4, 0, w)
		x.put(t, 4, 7, w)
		x.put(t, 2, 31, w)
		wantEntries(t, "words of leaves", x.m, 1, someEntries()[1:5]...)
		wantLeaves(t, "words of leaves", x.m, 1, someLeaves()...)
	}
	for _, w := range slices.Concat(noEntries, notOfLeaves) {
		x := some(t)
		x.put(t, 1, 0, w)
		x.put(t, 1, 5, w)
		wantEntries(t, "words of the root", x.m, 1, someEntries()[2:]...)
		wantLeaves(t, "words of the root", x.m, 1, someLeaves()[1:]...)
		x.put(t, 1, 31, w)
		wantEntries(t, "words of the root", x.m, 1, someEntries()[2:4]...)
		wantLeaves(t, "words of the root", x.m, 1, someLeaves()[1:2]...)
	}
	x := messy(t)
	x.wantTold(t, "a mess", 3)
	x.want(t, "what was told")
}

// A leaf that is no frame has no entries that could be read; the root's word, which names it, can be.
func TestP14_3LeafIsNoFrame(t *testing.T) {
	for _, leaf := range []int{6, 7, 128, 65535} {
		x := some(t)
		x.holdSetLeaf(t, 1, 40, leaf)
		x.holdSetLeaf(t, 1, 64, leaf)
		wantEntries(t, "no frame", x.m, 1, append(someEntries()[:2], someEntries()[4:]...)...)
		wantLeaves(t, "no frame", x.m, 1,
			api.Leaf{Index: 0, Frame: 4}, api.Leaf{Index: 1, Frame: leaf}, api.Leaf{Index: 2, Frame: leaf}, api.Leaf{Index: 31, Frame: 2})
	}
}

// Whoever breaks off is told no more.
func TestP14_3BrokenOff(t *testing.T) {
	x := some(t)
	for most := 1; most < 7; most++ {
		var got []api.Mapped
		table.Entries(x.m, 1)(func(page int, of api.Entry) bool {
			got = append(got, api.Mapped{Page: page, Entry: of})
			return len(got) < most
		})
		if !slices.Equal(got, someEntries()[:most]) {
			t.Errorf("Entries broken off behind %d: %v", most, got)
		}
	}
	for most := 1; most < 4; most++ {
		var got []api.Leaf
		table.Leaves(x.m, 1)(func(i, frame int) bool {
			got = append(got, api.Leaf{Index: i, Frame: frame})
			return len(got) < most
		})
		if !slices.Equal(got, someLeaves()[:most]) {
			t.Errorf("Leaves broken off behind %d: %v", most, got)
		}
	}
}

// What was broken off begins anew.
func TestP14_3ToldAgain(t *testing.T) {
	x := some(t)
	entries, leaves := table.Entries(x.m, 1), table.Leaves(x.m, 1)
	for range 3 {
		for page, of := range entries {
			if page != 0 || of != entry(1, 5) {
				t.Errorf("the first one of Entries: %d, %v", page, of)
			}
			break
		}
		for i, frame := range leaves {
			if i != 0 || frame != 4 {
				t.Errorf("the first one of Leaves: %d, %d", i, frame)
			}
			break
		}
	}
}

// What is turned between the call and the loop is told as it is then.
func TestP14_3AsTheyAre(t *testing.T) {
	x := some(t)
	entries, leaves := table.Entries(x.m, 1), table.Leaves(x.m, 1)
	x.holdSet(t, 1, 0, api.Entry{})
	x.holdSet(t, 1, 33, entry(1, 9))
	x.holdSetLeaf(t, 1, 992, -1)
	x.holdSetLeaf(t, 1, 64, 3)
	x.holdSet(t, 1, 64, entry(2, 9))
	var got []api.Mapped
	for page, of := range entries {
		got = append(got, api.Mapped{Page: page, Entry: of})
	}
	want := []api.Mapped{
		{Page: 31, Entry: entry(2, 0)}, {Page: 32, Entry: entry(3, 65535)}, {Page: 33, Entry: entry(1, 9)},
		{Page: 63, Entry: entry(1, 0)}, {Page: 64, Entry: entry(2, 9)},
	}
	if !slices.Equal(got, want) {
		t.Errorf("Entries: %v", got)
	}
	var l []api.Leaf
	for i, frame := range leaves {
		l = append(l, api.Leaf{Index: i, Frame: frame})
	}
	if !slices.Equal(l, []api.Leaf{{Index: 0, Frame: 4}, {Index: 1, Frame: 0}, {Index: 2, Frame: 3}}) {
		t.Errorf("Leaves: %v", l)
	}
}

// What is turned within the loop, too: each page is told as it is at its turn, and none ahead of the told one any more.
func TestP14_3TurnedWithinEntries(t *testing.T) {
	x := some(t)
	var got []api.Mapped
	for page, of := range table.Entries(x.m, 1) {
		got = append(got, api.Mapped{Page: page, Entry: of})
		switch page {
		case 0:
			x.holdSet(t, 1, 31, entry(1, 8)) // another entry
			x.holdSet(t, 1, 32, api.Entry{}) // none
			x.holdSet(t, 1, 2, entry(3, 2))  // a new one
		case 31:
			x.holdSet(t, 1, 30, entry(1, 1)) // ahead of the told one
			x.holdSetLeaf(t, 1, 64, 3)       // a new leaf
			x.holdSet(t, 1, 95, entry(1, 2))
		case 95:
			x.holdSetLeaf(t, 1, 992, -1) // none any more
		}
	}
	want := []api.Mapped{
		{Page: 0, Entry: entry(1, 5)}, {Page: 2, Entry: entry(3, 2)}, {Page: 31, Entry: entry(1, 8)},
		{Page: 63, Entry: entry(1, 0)}, {Page: 95, Entry: entry(1, 2)},
	}
	if !slices.Equal(got, want) {
		t.Errorf("Entries: %v", got)
	}
}

func TestP14_3TurnedWithinLeaves(t *testing.T) {
	x := some(t)
	var got []api.Leaf
	for i, frame := range table.Leaves(x.m, 1) {
		got = append(got, api.Leaf{Index: i, Frame: frame})
		switch i {
		case 0:
			x.holdSetLeaf(t, 1, 0, 5)   // the told one
			x.holdSetLeaf(t, 1, 32, -1) // none any more
			x.holdSetLeaf(t, 1, 64, 3)  // a new one
		case 2:
			x.holdSetLeaf(t, 1, 32, 5)   // ahead of the told one
			x.holdSetLeaf(t, 1, 1023, 0) // another one
		}
	}
	if !slices.Equal(got, []api.Leaf{{Index: 0, Frame: 4}, {Index: 2, Frame: 3}, {Index: 31, Frame: 0}}) {
		t.Errorf("Leaves: %v", got)
	}
}
