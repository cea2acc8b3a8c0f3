package locks_test

import (
	"math"
	"slices"
	"strconv"
	"testing"

	"byre/api"
	"byre/locks"
)

const free = -1

// far are numbers that are no lock's, whatever the table.
var far = []int{math.MinInt, math.MinInt + 1, -1 << 32, -64, -2, -1, api.MaxLocks, api.MaxLocks + 1, 1 << 32, 1<<32 + 1, 1 << 56, math.MaxInt - 1, math.MaxInt}

// below are numbers that are nobody.
var below = []int{math.MinInt, math.MinInt + 1, -1 << 32, -64, -2, -1}

// people are some of those that there may be, the least and the greatest among them.
var people = []int{0, 1, 2, 63, 64, 65, 255, 256, 1 << 31, 1<<32 - 1, 1 << 32, 1<<63 - 2, math.MaxInt}

// want holds an error against the one that is to be told.
func want(t *testing.T, what string, got, want api.Errno) {
	t.Helper()
	if got != want {
		t.Errorf("%s: error %d, not %d", what, got, want)
	}
}

// wantTry holds what Try answers against what it is to answer.
func wantTry(t *testing.T, table *locks.Table, who, lock int, had bool, err api.Errno) {
	t.Helper()
	if ok, e := table.Try(who, lock); ok != had || e != err {
		t.Errorf("Try(%d, %d): %t, error %d; not %t, error %d", who, lock, ok, e, had, err)
	}
}

// wantHad takes a lock that is to be had.
func wantHad(t *testing.T, table *locks.Table, who, lock int) {
	t.Helper()
	wantTry(t, table, who, lock, true, api.OK)
}

// wantFree holds what Free answers against the error that it is to tell.
func wantFree(t *testing.T, table *locks.Table, who, lock int, err api.Errno) {
	t.Helper()
	if e := table.Free(who, lock); e != err {
		t.Errorf("Free(%d, %d): error %d, not %d", who, lock, e, err)
	}
}

// wantRefused holds Try and Free against one error.
func wantRefused(t *testing.T, table *locks.Table, who, lock int, err api.Errno) {
	t.Helper()
	wantTry(t, table, who, lock, false, err)
	wantFree(t, table, who, lock, err)
}

// heldBy are the locks that who is to hold.
func heldBy(holders []int, who int) []int {
	var held []int
	for lock, holder := range holders {
		if holder == who {
			held = append(held, lock)
		}
	}
	return held
}

// wantHolders holds all that a table tells against who is to hold each of its locks.
func wantHolders(t *testing.T, what string, table *locks.Table, holders []int) {
	t.Helper()
	if table == nil {
		t.Fatalf("%s: no table", what)
	}
	if got := table.Locks(); got != len(holders) {
		t.Errorf("%s: %d locks, not %d", what, got, len(holders))
	}
	for lock, holder := range holders {
		if got := table.Holder(lock); got != holder {
			t.Errorf("%s: %d holds the lock %d, not %d", what, got, lock, holder)
		}
	}
	for _, lock := range wrongLocks(table) {
		if got := table.Holder(lock); got != free {
			t.Errorf("%s: %d holds the lock %d, which there is not", what, got, lock)
		}
	}
	for _, who := range slices.Concat(people, holders) {
		if who == free {
			continue
		}
		if got := table.Held(who); !slices.Equal(got, heldBy(holders, who)) {
			t.Errorf("%s: %d holds %v, not %v", what, who, got, heldBy(holders, who))
		}
	}
	for _, who := range below {
		if got := table.Held(who); len(got) != 0 {
			t.Errorf("%s: %d holds %v", what, who, got)
		}
	}
}

// wrongLocks are numbers that are none of the table's locks.
func wrongLocks(table *locks.Table) []int {
	return append([]int{table.Locks(), table.Locks() + 1, table.Locks() + 63, table.Locks() + 64}, far...)
}

// allFree are the holders of so many free locks.
func allFree(many int) []int {
	return slices.Repeat([]int{free}, many)
}

// taken is a table whose locks are held as holders says.
func taken(t *testing.T, holders []int) *locks.Table {
	t.Helper()
	table := locks.New(len(holders))
	for lock, holder := range holders {
		if holder != free {
			wantHad(t, table, holder, lock)
		}
	}
	wantHolders(t, "New", table, holders)
	return table
}

func TestP5_1New(t *testing.T) {
	for _, x := range []struct{ n, many int }{
		{math.MinInt, 0}, {math.MinInt + 1, 0}, {-64, 0}, {-2, 0}, {-1, 0},
		{0, 0}, {1, 1}, {2, 2}, {3, 3}, {31, 31}, {32, 32}, {62, 62}, {63, 63}, {64, 64},
		{65, 64}, {66, 64}, {128, 64}, {1 << 32, 64}, {1<<32 + 1, 64}, {math.MaxInt - 1, 64}, {math.MaxInt, 64},
	} {
		table := locks.New(x.n)
		wantHolders(t, "New", table, allFree(x.many))
		for _, lock := range wrongLocks(table) {
			for _, who := range people {
				wantRefused(t, table, who, lock, api.ErrArg)
			}
		}
		wantHolders(t, "New", table, allFree(x.many))
		for lock := range x.many {
			wantHad(t, table, 0, lock)
		}
		wantHolders(t, "all taken", table, make([]int, x.many))
	}
}

// A table of no locks is there all the same: it is not a zero one.
func TestP5_1NoLocks(t *testing.T) {
	for _, n := range []int{0, -1, math.MinInt} {
		table := locks.New(n)
		for _, which := range []*locks.Table{table, table.Copy(), table.Copy().Copy()} {
			wantHolders(t, "no locks", which, nil)
			for _, lock := range append([]int{0, 1, 63}, far...) {
				for _, who := range slices.Concat(people, below) {
					wantRefused(t, which, who, lock, api.ErrArg)
				}
			}
			wantHolders(t, "no locks", which, nil)
		}
		if table.Copy() == table {
			t.Error("Copy is the table itself")
		}
	}
}

func TestP5_1TwoTables(t *testing.T) {
	a, b := taken(t, []int{5, free, 6}), locks.New(3)
	wantHolders(t, "another table", b, allFree(3))
	wantHad(t, b, 9, 0)
	wantFree(t, b, 6, 2, api.ErrNone)
	wantHolders(t, "taken in another table", a, []int{5, free, 6})
}

func TestP5_1Copy(t *testing.T) {
	for _, holders := range [][]int{
		{free}, {0}, {math.MaxInt}, {free, free}, {0, free}, {free, 0}, {1, 0, 1, free, 2},
		allFree(api.MaxLocks), slices.Repeat([]int{7, free, 0, math.MaxInt}, api.MaxLocks/4),
	} {
		table := taken(t, holders)
		c := table.Copy()
		wantHolders(t, "Copy", c, holders)
		wantHolders(t, "what was copied", table, holders)
		for _, lock := range wrongLocks(c) {
			wantRefused(t, c, 0, lock, api.ErrArg)
		}
		wantHolders(t, "Copy", c, holders)
	}
}

func TestP5_1CopyGoesItsOwnWay(t *testing.T) {
	first := []int{4, free, 4, free, 5}
	table := taken(t, first)
	c := table.Copy()
	wantHad(t, c, 6, 3)
	wantFree(t, c, 4, 0, api.OK)
	wantHolders(t, "taken and freed in the copy", table, first)
	wantHolders(t, "taken and freed in the copy", c, []int{free, free, 4, 6, 5})
	wantHad(t, table, 7, 1)
	wantFree(t, table, 5, 4, api.OK)
	wantHolders(t, "taken and freed in what was copied", table, []int{4, 7, 4, free, free})
	wantHolders(t, "taken and freed in what was copied", c, []int{free, free, 4, 6, 5})
	d := c.Copy()
	wantFree(t, c, 4, 2, api.OK)
	wantHad(t, d, 8, 1)
	wantHolders(t, "a copy that was copied", c, []int{free, free, free, 6, 5})
	wantHolders(t, "a copy's copy", d, []int{free, 8, 4, 6, 5})
	wantTry(t, d, 8, 0, false, api.ErrRank)
	wantHad(t, c, 8, 0)
}

func TestP5_2Examples(t *testing.T) {
	table := locks.New(3)
	wantTry(t, table, 0, 1, true, api.OK)
	wantTry(t, table, 1, 1, false, api.OK)
	wantTry(t, table, 0, 1, false, api.ErrRank)
	wantTry(t, table, 0, 0, false, api.ErrRank)
	wantTry(t, table, 0, 2, true, api.OK)
	wantFree(t, table, 1, 1, api.ErrNone)
	wantFree(t, table, 0, 1, api.OK)
	if got := table.Held(0); !slices.Equal(got, []int{2}) {
		t.Errorf("Held(0): %v", got)
	}
	wantHolders(t, "the examples", table, []int{free, free, 0})
}

// edges are the first and the last locks of a table of so many.
func edges(many int) []int {
	all := slices.DeleteFunc([]int{0, 1, many - 2, many - 1}, func(lock int) bool { return lock < 0 || lock >= many })
	slices.Sort(all)
	return slices.Compact(all)
}

// Each lock is had when it is free, by whomever, and is nobody's again once it is freed.
func TestP5_2TryFree(t *testing.T) {
	for _, many := range []int{1, 2, 3, 9, 63, 64} {
		table := locks.New(many)
		for _, lock := range edges(many) {
			for _, who := range people {
				holders := allFree(many)
				wantHad(t, table, who, lock)
				holders[lock] = who
				wantHolders(t, "Try", table, holders)
				wantFree(t, table, who, lock, api.OK)
				wantHolders(t, "Free", table, allFree(many))
				wantFree(t, table, who, lock, api.ErrNone)
			}
		}
		wantHolders(t, "Free", table, allFree(many))
	}
}

// What another one holds is not had, however often it is tried, till it is freed.
func TestP5_2TryOfAnothers(t *testing.T) {
	for _, many := range []int{1, 2, 64} {
		for _, lock := range edges(many) {
			for i, holder := range people {
				table, holders := locks.New(many), allFree(many)
				holders[lock] = holder
				wantHad(t, table, holder, lock)
				for _, who := range slices.Concat(people[:i], people[i+1:]) {
					for range 3 {
						wantTry(t, table, who, lock, false, api.OK)
					}
				}
				wantHolders(t, "Try of another one's lock", table, holders)
				other := people[(i+1)%len(people)]
				wantFree(t, table, holder, lock, api.OK)
				wantHad(t, table, other, lock)
				wantTry(t, table, holder, lock, false, api.OK)
				holders[lock] = other
				wantHolders(t, "Try of a freed lock", table, holders)
			}
		}
	}
}

// Whoever holds a lock has none of that number or a lesser one, be it free or somebody's.
func TestP5_2TryByRank(t *testing.T) {
	for _, many := range []int{1, 2, 5, 64} {
		for _, held := range edges(many) {
			for _, who := range people {
				for _, other := range []int{free, who ^ 1} {
					holders := allFree(many)
					holders[held/2] = other
					holders[held] = who
					table := taken(t, holders)
					for lock := range held + 1 {
						wantTry(t, table, who, lock, false, api.ErrRank)
					}
					wantHolders(t, "Try of lesser locks", table, holders)
				}
			}
		}
	}
}

// Above what one holds, a lock is had if it is free, and not had if it is another one's.
func TestP5_2TryAbove(t *testing.T) {
	table := taken(t, []int{3, free, 4, free, 4, free})
	wantTry(t, table, 3, 4, false, api.OK)
	wantTry(t, table, 3, 2, false, api.OK)
	wantHad(t, table, 3, 1)
	wantHad(t, table, 3, 3)
	wantTry(t, table, 3, 4, false, api.OK)
	wantTry(t, table, 3, 2, false, api.ErrRank)
	wantTry(t, table, 4, 3, false, api.ErrRank)
	wantHad(t, table, 4, 5)
	wantHolders(t, "rising locks", table, []int{3, 3, 4, 3, 4, 4})
	wantTry(t, table, 3, 5, false, api.OK)
	wantFree(t, table, 4, 5, api.OK)
	wantHad(t, table, 3, 5)
	wantHolders(t, "a freed lock", table, []int{3, 3, 4, 3, 4, 3})
}

// The greatest lock that somebody holds counts, not the last one that was taken, nor how many there are.
func TestP5_2RankOfWhatIsLeft(t *testing.T) {
	table := taken(t, []int{free, 2, free, 2, free, 2, free})
	wantFree(t, table, 2, 5, api.OK)
	wantTry(t, table, 2, 2, false, api.ErrRank)
	wantTry(t, table, 2, 3, false, api.ErrRank)
	wantHad(t, table, 2, 4)
	wantFree(t, table, 2, 1, api.OK)
	wantFree(t, table, 2, 3, api.OK)
	wantTry(t, table, 2, 1, false, api.ErrRank)
	wantTry(t, table, 2, 4, false, api.ErrRank)
	wantHad(t, table, 2, 5)
	wantFree(t, table, 2, 4, api.OK)
	wantTry(t, table, 2, 4, false, api.ErrRank)
	wantFree(t, table, 2, 5, api.OK)
	wantHolders(t, "all were freed", table, allFree(7))
	wantHad(t, table, 2, 0)
	wantHad(t, table, 2, 6)
	wantHolders(t, "taken anew", table, []int{2, free, free, free, free, free, 2})
}

func TestP5_2FreeOfAnothers(t *testing.T) {
	for _, many := range []int{1, 2, 64} {
		for _, lock := range edges(many) {
			for i, holder := range people {
				holders := allFree(many)
				holders[lock] = holder
				table := taken(t, holders)
				for _, who := range slices.Concat(people[:i], people[i+1:]) {
					wantFree(t, table, who, lock, api.ErrNone)
				}
				wantHolders(t, "Free by another one", table, holders)
				wantFree(t, table, holder, lock, api.OK)
				wantHolders(t, "Free", table, allFree(many))
			}
		}
	}
}

func TestP5_2FreeOfFree(t *testing.T) {
	for _, many := range []int{1, 3, 64} {
		table := locks.New(many)
		for lock := range many {
			for _, who := range people {
				wantFree(t, table, who, lock, api.ErrNone)
			}
		}
		wantHolders(t, "Free of free locks", table, allFree(many))
	}
	// Whoever holds others does not hold this one.
	table := taken(t, []int{0, free, 0})
	wantFree(t, table, 0, 1, api.ErrNone)
	wantHolders(t, "Free of a free lock", table, []int{0, free, 0})
}

// One holder's locks are freed in any order; each leaves the others as they are.
func TestP5_2FreeInAnyOrder(t *testing.T) {
	for _, order := range [][]int{{0, 1, 2}, {0, 2, 1}, {1, 0, 2}, {1, 2, 0}, {2, 0, 1}, {2, 1, 0}} {
		holders := []int{8, 8, 9, 8, free}
		table := taken(t, holders)
		for _, i := range order {
			lock := []int{0, 1, 3}[i]
			wantFree(t, table, 8, lock, api.OK)
			holders[lock] = free
			wantHolders(t, "Free", table, holders)
			wantFree(t, table, 8, lock, api.ErrNone)
			wantHolders(t, "Free of a free lock", table, holders)
		}
		wantHolders(t, "Free of all", table, []int{free, free, 9, free, free})
	}
}

func TestP5_2NobodyAsks(t *testing.T) {
	for _, holders := range [][]int{{free}, {0}, {free, 1, free}, slices.Repeat([]int{0}, api.MaxLocks)} {
		table := taken(t, holders)
		for _, who := range below {
			for lock := range holders {
				wantRefused(t, table, who, lock, api.ErrArg)
			}
			for _, lock := range wrongLocks(table) {
				wantRefused(t, table, who, lock, api.ErrArg)
			}
		}
		wantHolders(t, "what was refused", table, holders)
	}
}

// That there is no such lock is told first, whatever whoever asks holds.
func TestP5_2NoSuchLock(t *testing.T) {
	for _, many := range []int{1, 2, 63, api.MaxLocks} {
		holders := allFree(many)
		holders[many-1] = 5
		table := taken(t, holders)
		for _, lock := range wrongLocks(table) {
			wantRefused(t, table, 5, lock, api.ErrArg)
			for _, who := range people {
				wantRefused(t, table, who, lock, api.ErrArg)
			}
		}
		wantHolders(t, "what was refused", table, holders)
	}
}

// Holder and Held tell what is, behind each try and each free.
func TestP5_3InBetween(t *testing.T) {
	table := locks.New(4)
	for i, x := range []struct {
		take, who, lock int
		holders         []int
	}{
		{1, 7, 1, []int{free, 7, free, free}},
		{1, 0, 0, []int{0, 7, free, free}},
		{1, 7, 3, []int{0, 7, free, 7}},
		{1, 0, 2, []int{0, 7, 0, 7}},
		{0, 7, 1, []int{0, free, 0, 7}},
		{0, 0, 0, []int{free, free, 0, 7}},
		{0, 7, 3, []int{free, free, 0, free}},
		{1, 7, 0, []int{7, free, 0, free}},
		{0, 0, 2, []int{7, free, free, free}},
		{0, 7, 0, []int{free, free, free, free}},
	} {
		if x.take == 1 {
			wantHad(t, table, x.who, x.lock)
		} else {
			wantFree(t, table, x.who, x.lock, api.OK)
		}
		wantHolders(t, "step "+strconv.Itoa(i), table, x.holders)
	}
}

func TestP5_3HeldIsACopy(t *testing.T) {
	holders := []int{1, 2, 1, free, 1, 2}
	table := taken(t, holders)
	held, other := table.Held(1), table.Held(1)
	clear(held[:cap(held)])
	clear(append(held, 2, 2, 2))
	wantHolders(t, "what Held told was written over", table, holders)
	if !slices.Equal(other, []int{0, 2, 4}) {
		t.Errorf("two answers of Held share their memory: %v", other)
	}
	wantFree(t, table, 1, 2, api.OK)
	wantFree(t, table, 1, 4, api.OK)
	wantHad(t, table, 1, 3)
	if !slices.Equal(other, []int{0, 2, 4}) {
		t.Errorf("what Held told changes with the table: %v", other)
	}
}

func TestP5_3HeldOfAll(t *testing.T) {
	table := locks.New(api.MaxLocks)
	var all []int
	for lock := range api.MaxLocks {
		wantHad(t, table, 3, lock)
		all = append(all, lock)
		if got := table.Held(3); !slices.Equal(got, all) {
			t.Fatalf("Held(3): %v, not %v", got, all)
		}
	}
	wantHolders(t, "all taken", table, slices.Repeat([]int{3}, api.MaxLocks))
}

// expected is what a table that has holders answers to a try.
func expected(holders []int, who, lock int) (bool, api.Errno) {
	if who < 0 || lock < 0 || lock >= len(holders) {
		return false, api.ErrArg
	}
	if held := heldBy(holders, who); len(held) > 0 && held[len(held)-1] >= lock {
		return false, api.ErrRank
	}
	if holders[lock] != free {
		return false, api.OK
	}
	return true, api.OK
}

// round tries and frees in turn, and holds each answer against what holders says.
func round(t *testing.T, table *locks.Table, holders []int, who, lock int, try bool) {
	t.Helper()
	if try {
		had, err := expected(holders, who, lock)
		wantTry(t, table, who, lock, had, err)
		if had {
			holders[lock] = who
		}
		return
	}
	switch {
	case who < 0 || lock < 0 || lock >= len(holders):
		wantFree(t, table, who, lock, api.ErrArg)
	case holders[lock] != who:
		wantFree(t, table, who, lock, api.ErrNone)
	default:
		wantFree(t, table, who, lock, api.OK)
		holders[lock] = free
	}
}

// Many tries and frees, one behind the other, of numbers below, at and above those that there are.
func TestP5_2InARow(t *testing.T) {
	for _, many := range []int{1, 2, 5, 17, 64} {
		table, holders := locks.New(many), allFree(many)
		x := uint64(many)
		for range 4000 {
			x = x*6364136223846793005 + 1442695040888963407
			who, lock, try := int(x>>33%6)-1, int(x>>43%uint64(many+2))-1, x>>60%3 > 0
			round(t, table, holders, who, lock, try)
			wantHolders(t, "in a row", table, holders)
			if t.Failed() {
				return
			}
		}
	}
}

// Whoever holds the greatest lock that is held waits for none that is held.
func TestP5_NoCircle(t *testing.T) {
	table := taken(t, []int{0, 1, 2, free, 1, free})
	for lock := range table.Locks() {
		had, e := table.Try(1, lock)
		if !had && e == api.OK {
			t.Errorf("1 waits for the lock %d", lock)
		}
	}
}

// wantNothing holds what a table that is not there tells against what it is to tell.
func wantNothing(t *testing.T, table *locks.Table) {
	t.Helper()
	if got := table.Locks(); got != 0 {
		t.Errorf("Locks: %d", got)
	}
	if c := table.Copy(); c != nil {
		t.Errorf("Copy: %v", c)
	}
	for _, n := range append([]int{0, 1, 63}, far...) {
		if got := table.Holder(n); got != free {
			t.Errorf("Holder(%d): %d", n, got)
		}
		if got := table.Held(n); len(got) != 0 {
			t.Errorf("Held(%d): %v", n, got)
		}
	}
}

func TestP5_NotThere(t *testing.T) {
	for _, table := range []*locks.Table{nil, {}, new(locks.Table)} {
		for range 2 {
			wantNothing(t, table)
			for _, lock := range append([]int{0, 1, 63}, far...) {
				for _, who := range slices.Concat(people, below) {
					wantRefused(t, table, who, lock, api.ErrNil)
				}
			}
		}
	}
}
