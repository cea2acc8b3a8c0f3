package depot_test

import (
	"math"
	"slices"
	"strconv"
	"testing"

	"byre/api"
	"byre/depot"
)

// named are depots of so many rounds, by what New is asked for.
var named = []struct{ asked, rounds int }{
	{math.MinInt, 1}, {math.MinInt + 1, 1}, {math.MinInt + 2, 1}, {-1 << 32, 1}, {1 - 1<<32, 1}, {-33, 1}, {-32, 1}, {-2, 1}, {-1, 1},
	{0, 1}, {1, 1}, {2, 2}, {3, 3}, {4, 4}, {15, 15}, {16, 16}, {30, 30}, {31, 31}, {32, 32},
	{33, 32}, {34, 32}, {64, 32}, {65, 32}, {255, 32}, {256, 32}, {1 << 16, 32}, {1 << 32, 32}, {1<<32 + 1, 32}, {math.MaxInt - 1, 32}, {math.MaxInt, 32},
}

// odd are objects that no machine has, and a zero one.
var odd = []api.Object{
	{}, {Frame: -1}, {Index: -1}, {Frame: -1, Index: -1}, {Frame: 1, Index: 32}, {Frame: 1024, Index: 255},
	{Frame: math.MinInt, Index: math.MaxInt}, {Frame: math.MaxInt, Index: math.MinInt}, {Frame: 1 << 32}, {Index: 1 << 32}, {Frame: math.MaxInt, Index: math.MaxInt}, {Frame: math.MinInt, Index: math.MinInt},
}

// sizes are rounds of depots that are asked much.
var sizes = []int{1, 2, 3, 4, 31, 32}

// counts are how many full magazines, or queued objects, a depot has that is asked much.
var counts = []int{0, 1, 2, 3, 63, 64}

// object is one that no other number makes.
func object(n int) api.Object {
	return api.Object{Frame: n / 8, Index: n % 8}
}

// objects are so many, from that number on.
func objects(from, many int) []api.Object {
	var m []api.Object
	for i := range many {
		m = append(m, object(from+i))
	}
	return m
}

// plain is a depot as a list of magazines and one of objects.
type plain struct {
	rounds int
	fulls  [][]api.Object
	queue  []api.Object
}

// all is what All is to answer.
func (m *plain) all() []api.Object {
	var l []api.Object
	for _, full := range m.fulls {
		l = append(l, full...)
	}
	return append(l, m.queue...)
}

// put is what Put is to answer, and to do.
func (m *plain) put(l []api.Object) api.Errno {
	switch {
	case len(l) < m.rounds || len(l) > m.rounds:
		return api.ErrArg
	case len(m.fulls) >= 64:
		return api.ErrFull
	}
	m.fulls = append(m.fulls, slices.Clone(l))
	return api.OK
}

// get is what Get is to answer, and to do.
func (m *plain) get() ([]api.Object, bool) {
	k := len(m.fulls)
	if k == 0 {
		return nil, false
	}
	l := m.fulls[k-1]
	m.fulls = m.fulls[:k-1]
	return l, true
}

// drain is what Drain is to answer, and to do.
func (m *plain) drain(n int) []api.Object {
	var l, rest []api.Object
	for i, o := range m.queue {
		if i < n {
			l = append(l, o)
		} else {
			rest = append(rest, o)
		}
	}
	m.queue = rest
	return l
}

// flush is what Flush is to answer, and to do.
func (m *plain) flush() []api.Object {
	l := m.all()
	m.fulls, m.queue = nil, nil
	return l
}

// both is a depot and a plain one that is to be as it is.
type both struct {
	d *depot.Depot
	m *plain
}

// made is a new depot.
func made(rounds int) both {
	return both{depot.New(rounds), &plain{rounds: rounds}}
}

// want holds all that a depot tells against what it is to tell.
func (x both) want(t *testing.T, what string) {
	t.Helper()
	if got := x.d.Rounds(); got != x.m.rounds {
		t.Errorf("%s: %d rounds, not %d", what, got, x.m.rounds)
	}
	if got := x.d.Fulls(); got != len(x.m.fulls) {
		t.Errorf("%s: %d full magazines, not %d", what, got, len(x.m.fulls))
	}
	if got := x.d.Queued(); got != len(x.m.queue) {
		t.Errorf("%s: %d queued, not %d", what, got, len(x.m.queue))
	}
	if got, all := x.d.All(), x.m.all(); !slices.Equal(got, all) {
		t.Errorf("%s: the objects %v, not %v", what, got, all)
	}
}

// put holds what Put answers against what it is to answer.
func (x both) put(t *testing.T, m []api.Object) api.Errno {
	t.Helper()
	err := x.m.put(m)
	before := slices.Clone(m)
	if e := x.d.Put(m); e != err {
		t.Errorf("Put of %d: error %d, not %d", len(m), e, err)
	}
	if !slices.Equal(m, before) {
		t.Errorf("Put of %d: it is written to", len(m))
	}
	x.want(t, "Put")
	return err
}

// wantPut holds what Put answers, of the depot and of the plain one, against the error that it is to tell.
func (x both) wantPut(t *testing.T, m []api.Object, want api.Errno) {
	t.Helper()
	if e := x.put(t, m); e != want {
		t.Errorf("Put of %d: error %d, not %d", len(m), e, want)
	}
}

// get holds what Get answers against what it is to answer.
func (x both) get(t *testing.T) ([]api.Object, bool) {
	t.Helper()
	m, ok := x.m.get()
	if got, had := x.d.Get(); !slices.Equal(got, m) || had != ok {
		t.Errorf("Get: %v, %t; not %v, %t", got, had, m, ok)
	}
	x.want(t, "Get")
	return m, ok
}

// wantGot holds what Get answers, of the depot and of the plain one, against objects.
func (x both) wantGot(t *testing.T, want []api.Object) {
	t.Helper()
	if m, ok := x.get(t); !slices.Equal(m, want) || !ok {
		t.Errorf("Get: %v, %t; not %v", m, ok, want)
	}
}

// wantNone holds what Get answers against what it is to answer if there is no full magazine.
func (x both) wantNone(t *testing.T) {
	t.Helper()
	if m, ok := x.get(t); len(m) > 0 || ok {
		t.Errorf("Get: %v, %t; not none", m, ok)
	}
}

// queue queues objects, one behind the other.
func (x both) queue(t *testing.T, m ...api.Object) {
	t.Helper()
	for _, o := range m {
		x.m.queue = append(x.m.queue, o)
		x.d.Queue(o)
		x.want(t, "Queue")
	}
}

// drain holds what Drain answers against what it is to answer.
func (x both) drain(t *testing.T, n int) []api.Object {
	t.Helper()
	m := x.m.drain(n)
	if got := x.d.Drain(n); !slices.Equal(got, m) {
		t.Errorf("Drain(%d): %v, not %v", n, got, m)
	}
	x.want(t, "Drain")
	return m
}

// wantDrained holds what Drain answers, of the depot and of the plain one, against objects.
func (x both) wantDrained(t *testing.T, n int, want []api.Object) {
	t.Helper()
	if m := x.drain(t, n); !slices.Equal(m, want) {
		t.Errorf("Drain(%d): %v, not %v", n, m, want)
	}
}

// flush holds what Flush answers against what All answers ahead of it.
func (x both) flush(t *testing.T) []api.Object {
	t.Helper()
	all, m := x.d.All(), x.m.flush()
	if got := x.d.Flush(); !slices.Equal(got, m) || !slices.Equal(got, all) {
		t.Errorf("Flush: %v, not %v", got, m)
	}
	x.want(t, "Flush")
	return m
}

// filled is a depot with so many full magazines and so many queued; their objects are numbered from 0 on, in the order of All.
func filled(t *testing.T, rounds, fulls, queued int) both {
	t.Helper()
	x := made(rounds)
	for i := range fulls {
		x.m.put(objects(i*rounds, rounds))
		if e := x.d.Put(objects(i*rounds, rounds)); e != api.OK {
			t.Fatalf("Put number %d: error %d", i, e)
		}
	}
	for _, o := range objects(fulls*rounds, queued) {
		x.m.queue = append(x.m.queue, o)
		x.d.Queue(o)
	}
	x.want(t, "filled")
	if all := x.d.All(); !slices.Equal(all, objects(0, fulls*rounds+queued)) {
		t.Fatalf("%d rounds, %d full magazines, %d queued: %v", rounds, fulls, queued, all)
	}
	return x
}

// eachFilling asks of depots of some sizes with some full magazines and some queued.
func eachFilling(t *testing.T, ask func(t *testing.T, rounds, fulls, queued int)) {
	t.Helper()
	for _, rounds := range sizes {
		for _, fulls := range counts {
			for _, queued := range counts {
				ask(t, rounds, fulls, queued)
				if t.Failed() {
					t.Fatalf("%d rounds, %d full magazines, %d queued", rounds, fulls, queued)
				}
			}
		}
	}
}

// goesOn asks what is to come: one thing of each kind, then all that is there, piece by piece.
func (x both) goesOn(t *testing.T) {
	t.Helper()
	x.put(t, objects(5000, x.m.rounds))
	x.queue(t, objects(5100, 2)...)
	x.drain(t, 1)
	for range len(x.m.fulls) {
		if _, ok := x.get(t); !ok {
			t.Fatal("Get: false")
		}
	}
	x.wantNone(t)
	x.put(t, objects(5200, x.m.rounds))
	x.drain(t, len(x.m.queue))
	x.wantDrained(t, 1, nil)
	x.queue(t, object(5300))
	x.flush(t)
	x.wantNone(t)
}

func TestP11_Examples(t *testing.T) {
	a, b, c := object(1), object(2), object(3)
	d := depot.New(2)
	if e := d.Put([]api.Object{a, b}); e != api.OK {
		t.Errorf("Put a b: error %d", e)
	}
	if e := d.Put([]api.Object{c}); e != api.ErrArg {
		t.Errorf("Put c: error %d", e)
	}
	if m, ok := d.Get(); !slices.Equal(m, []api.Object{a, b}) || !ok {
		t.Errorf("Get: %v, %t", m, ok)
	}
	for _, o := range []api.Object{a, b, c} {
		d.Queue(o)
	}
	if m := d.Drain(2); !slices.Equal(m, []api.Object{a, b}) {
		t.Errorf("Drain(2): %v", m)
	}
	if m := d.All(); !slices.Equal(m, []api.Object{c}) || d.Queued() != 1 || d.Fulls() != 0 {
		t.Errorf("All: %v", m)
	}
}

func TestP11_1New(t *testing.T) {
	for _, n := range named {
		x := both{depot.New(n.asked), &plain{rounds: n.rounds}}
		what := "New(" + strconv.Itoa(n.asked) + ")"
		x.want(t, what)
		x.wantNone(t)
		x.wantDrained(t, 1, nil)
		x.wantPut(t, objects(0, n.rounds-1), api.ErrArg)
		x.wantPut(t, objects(0, n.rounds+1), api.ErrArg)
		x.wantPut(t, objects(0, n.rounds), api.OK)
		x.queue(t, objects(100, 3)...)
		x.wantGot(t, objects(0, n.rounds))
		x.wantDrained(t, 3, objects(100, 3))
		x.want(t, what)
		x.goesOn(t)
		if t.Failed() {
			t.Fatal(what)
		}
	}
}

func TestP11_1TwoDepots(t *testing.T) {
	x, y := made(2), made(2)
	x.wantPut(t, objects(0, 2), api.OK)
	x.queue(t, objects(10, 3)...)
	y.want(t, "another depot")
	y.wantPut(t, objects(20, 2), api.OK)
	y.wantPut(t, objects(22, 2), api.OK)
	y.queue(t, objects(30, 2)...)
	x.want(t, "another depot")
	y.wantGot(t, objects(22, 2))
	y.wantDrained(t, 1, objects(30, 1))
	x.want(t, "another depot")
	x.flush(t)
	y.want(t, "another depot")
	x.goesOn(t)
	y.want(t, "another depot")
	y.goesOn(t)
}

// A list of other than the rounds is refused, whether there is room or not: ErrArg is named ahead of ErrFull.
func TestP11_2PutOfWrongMany(t *testing.T) {
	eachFilling(t, func(t *testing.T, rounds, fulls, queued int) {
		x := filled(t, rounds, fulls, queued)
		for _, m := range [][]api.Object{nil, {}, odd[:0], objects(9000, rounds-1), objects(9000, rounds+1), objects(9000, rounds+2), objects(9000, 2*rounds), objects(9000, 64), objects(9000, 3000)} {
			if len(m) != rounds {
				x.wantPut(t, m, api.ErrArg)
			}
		}
		x.goesOn(t)
	})
}

// A depot has room for 64 full magazines and no more, of whatever rounds and whatever is queued.
func TestP11_2PutTillFull(t *testing.T) {
	for rounds := 1; rounds <= api.MaxRounds; rounds++ {
		x := made(rounds)
		x.queue(t, objects(9000, rounds)...)
		for i := range api.MaxFulls {
			x.wantPut(t, objects(i*rounds, rounds), api.OK)
		}
		for range 3 {
			x.wantPut(t, objects(8000, rounds), api.ErrFull)
		}
		x.wantPut(t, objects(8000, rounds+1), api.ErrArg)
		x.wantPut(t, objects(8000, rounds-1), api.ErrArg)
		if x.d.Fulls() != 64 {
			t.Errorf("%d full magazines", x.d.Fulls())
		}
		x.wantGot(t, objects(63*rounds, rounds))
		x.wantPut(t, objects(8000, rounds), api.OK)
		x.wantPut(t, objects(8100, rounds), api.ErrFull)
		x.wantGot(t, objects(8000, rounds))
		x.goesOn(t)
	}
}

// What Put makes is the last one, behind those that were there, and ahead of what is queued.
func TestP11_2Put(t *testing.T) {
	eachFilling(t, func(t *testing.T, rounds, fulls, queued int) {
		x := filled(t, rounds, fulls, queued)
		if fulls == api.MaxFulls {
			x.wantPut(t, objects(9000, rounds), api.ErrFull)
			x.goesOn(t)
			return
		}
		x.wantPut(t, objects(9000, rounds), api.OK)
		all := slices.Concat(objects(0, fulls*rounds), objects(9000, rounds), objects(fulls*rounds, queued))
		if got := x.d.All(); !slices.Equal(got, all) || x.d.Fulls() != fulls+1 {
			t.Errorf("behind Put: %v, %d full magazines", got, x.d.Fulls())
		}
		x.wantGot(t, objects(9000, rounds))
		x.goesOn(t)
	})
}

// Each Get takes the last full magazine, and leaves the others and the queue as they are.
func TestP11_2Get(t *testing.T) {
	eachFilling(t, func(t *testing.T, rounds, fulls, queued int) {
		x := filled(t, rounds, fulls, queued)
		for left := fulls - 1; left >= 0; left-- {
			x.wantGot(t, objects(left*rounds, rounds))
			all := slices.Concat(objects(0, left*rounds), objects(fulls*rounds, queued))
			if got := x.d.All(); !slices.Equal(got, all) || x.d.Fulls() != left || x.d.Queued() != queued {
				t.Errorf("behind Get: %v", got)
			}
		}
		for range 3 {
			x.wantNone(t)
		}
		x.goesOn(t)
	})
}

// By turns, at each filling: what was put is got at once; what was got is put back where it was.
func TestP11_2ByTurns(t *testing.T) {
	eachFilling(t, func(t *testing.T, rounds, fulls, queued int) {
		x := filled(t, rounds, fulls, queued)
		for i := range 3 {
			if fulls < api.MaxFulls {
				x.wantPut(t, objects(9000+100*i, rounds), api.OK)
				x.wantGot(t, objects(9000+100*i, rounds))
			}
			if m, ok := x.get(t); ok {
				x.wantPut(t, m, api.OK)
			}
			if all := x.d.All(); !slices.Equal(all, objects(0, fulls*rounds+queued)) {
				t.Errorf("by turns: %v", all)
			}
		}
	})
}

// What was put may be written over, behind its end, too; and it is not written to.
func TestP11_2PutKeepsNothing(t *testing.T) {
	for _, rounds := range sizes {
		x := made(rounds)
		whole := objects(100, rounds+8)
		for range 5 {
			x.wantPut(t, whole[:rounds], api.OK)
		}
		x.queue(t, objects(200, 2)...)
		if !slices.Equal(whole, objects(100, rounds+8)) {
			t.Errorf("Put: it is written to: %v", whole)
		}
		clear(whole)
		x.want(t, "what was put was written over")
		x.wantPut(t, whole[:rounds], api.OK)
		for i := range whole {
			whole[i] = object(300 + i)
		}
		x.want(t, "what was put was written over")
		x.wantGot(t, make([]api.Object, rounds))
		for range 5 {
			x.wantGot(t, objects(100, rounds))
		}
		x.goesOn(t)
		if !slices.Equal(whole, objects(300, rounds+8)) {
			t.Errorf("what was put is written to later: %v", whole)
		}
	}
}

// scrawl writes over a list, and behind its end.
func scrawl(m []api.Object) {
	clear(m[:cap(m)])
	m = append(m, object(9990), object(9991))
	clear(m)
}

func TestP11_2GetToldOnce(t *testing.T) {
	eachFilling(t, func(t *testing.T, rounds, fulls, queued int) {
		if fulls == 0 {
			return
		}
		x := filled(t, rounds, fulls, queued)
		m, ok := x.d.Get()
		x.m.get()
		x.goesOn(t)
		if want := objects((fulls-1)*rounds, rounds); !ok || !slices.Equal(m, want) {
			t.Errorf("what Get told changes with the depot: %v, not %v", m, want)
		}
		x = filled(t, rounds, fulls, queued)
		m, _ = x.d.Get()
		x.m.get()
		scrawl(m)
		x.want(t, "what Get told was written over")
		x.put(t, objects(9000, rounds))
		x.queue(t, object(9100))
		scrawl(m)
		x.want(t, "what Get told was written over")
		x.goesOn(t)
	})
}

// Each object is the last one of the queue, however many there are; no bound is set to them.
func TestP11_3Queue(t *testing.T) {
	for _, many := range []int{1, 2, 3, 4, 5, 31, 32, 33, 63, 64, 65, 127, 128, 129, 300} {
		x := made(4)
		x.wantPut(t, objects(9000, 4), api.OK)
		x.queue(t, objects(0, many)...)
		if x.d.Queued() != many {
			t.Errorf("%d are queued, not %d", x.d.Queued(), many)
		}
		x.wantDrained(t, many, objects(0, many))
		x.goesOn(t)
	}
}

func TestP11_3QueueOfVeryMany(t *testing.T) {
	const many = 1<<16 + 5
	d := depot.New(4)
	for i := range many {
		d.Queue(object(i))
	}
	if got := d.Queued(); got != many {
		t.Errorf("%d are queued", got)
	}
	if m := d.Drain(many - 3); !slices.Equal(m, objects(0, many-3)) {
		t.Errorf("Drain: %d of them, not so many or not these", len(m))
	}
	if m := d.All(); !slices.Equal(m, objects(many-3, 3)) || d.Queued() != 3 {
		t.Errorf("All: %v", m)
	}
}

// One object more than once is that object as often, in the queue and beside it.
func TestP11_3QueueOfTheSame(t *testing.T) {
	a, b := object(7), object(8)
	x := made(2)
	x.queue(t, a, a, b, a)
	x.wantPut(t, []api.Object{a, a}, api.OK)
	x.wantPut(t, []api.Object{a, a}, api.OK)
	x.wantDrained(t, 1, []api.Object{a})
	x.wantDrained(t, 2, []api.Object{a, b})
	x.queue(t, a)
	x.wantGot(t, []api.Object{a, a})
	x.wantDrained(t, 5, []api.Object{a, a})
	x.wantGot(t, []api.Object{a, a})
	x.wantNone(t)
	x.goesOn(t)
}

// drains are what Drain is asked for where so many are queued.
func drains(queued int) []int {
	l := []int{math.MinInt, math.MinInt + 1, -1 << 32, 1 - 1<<32, -65, -2, -1, 0, 1, 2, queued - 1, queued, queued + 1, queued + 2, 2*queued + 1, 1000, 1 << 16, 1 << 32, 1<<32 + 1, math.MaxInt - 1, math.MaxInt}
	slices.Sort(l)
	return slices.Compact(l)
}

// Drain takes the first ones, as many as are asked for and are there, and leaves the others and the full magazines as they are.
func TestP11_3Drain(t *testing.T) {
	eachFilling(t, func(t *testing.T, rounds, fulls, queued int) {
		first := fulls * rounds
		for _, n := range drains(queued) {
			x := filled(t, rounds, fulls, queued)
			many := min(max(n, 0), queued)
			x.wantDrained(t, n, objects(first, many))
			all := slices.Concat(objects(0, first), objects(first+many, queued-many))
			if got := x.d.All(); !slices.Equal(got, all) || x.d.Queued() != queued-many || x.d.Fulls() != fulls {
				t.Errorf("behind Drain(%d): %v", n, got)
			}
			if t.Failed() {
				t.Fatalf("Drain(%d)", n)
			}
		}
	})
}

// Twice one behind the other the second Drain goes on where the first one ended; and what is queued then comes behind all.
func TestP11_3DrainTwice(t *testing.T) {
	for _, queued := range counts {
		for _, n := range drains(queued) {
			for _, k := range drains(queued) {
				x := filled(t, 2, 1, queued)
				many := min(max(n, 0), queued)
				next := min(max(k, 0), queued-many)
				x.wantDrained(t, n, objects(2, many))
				x.wantDrained(t, k, objects(2+many, next))
				x.queue(t, objects(9000, 2)...)
				x.wantDrained(t, math.MaxInt, slices.Concat(objects(2+many+next, queued-many-next), objects(9000, 2)))
				x.wantDrained(t, math.MaxInt, nil)
				if t.Failed() {
					t.Fatalf("%d queued, Drain(%d), Drain(%d)", queued, n, k)
				}
			}
		}
	}
}

func TestP11_3DrainOneByOne(t *testing.T) {
	x := filled(t, 3, 2, 64)
	for i := range 64 {
		x.wantDrained(t, 1, objects(6+i, 1))
		x.wantDrained(t, 0, nil)
		x.queue(t, object(6+64+i))
	}
	x.wantDrained(t, 64, objects(6+64, 64))
	x.goesOn(t)
}

// What Drain told may be written over, behind its end, too; and it stays as it was told.
func TestP11_3DrainToldOnce(t *testing.T) {
	eachFilling(t, func(t *testing.T, rounds, fulls, queued int) {
		first := fulls * rounds
		for n := 1; n <= queued; n += 1 + n/2 {
			x := filled(t, rounds, fulls, queued)
			m := x.d.Drain(n)
			x.m.drain(n)
			l := x.d.Drain(1)
			x.m.drain(1)
			scrawl(m)
			x.want(t, "what Drain told was written over")
			if !slices.Equal(l, objects(first+n, min(1, queued-n))) {
				t.Errorf("two answers of Drain share their memory: %v", l)
			}
			x.queue(t, objects(9000, 2)...)
			scrawl(m)
			x.want(t, "what Drain told was written over")
			x.drain(t, queued)
			x.queue(t, objects(9100, 3)...)
			if !slices.Equal(l, objects(first+n, min(1, queued-n))) {
				t.Errorf("what Drain told changes with the depot: %v", l)
			}
			scrawl(l)
			x.want(t, "what Drain told was written over")
		}
	})
}

// Neither the full magazines nor the queue minds the other: calls of one kind leave what the other one has.
func TestP11_3NeitherMindsTheOther(t *testing.T) {
	eachFilling(t, func(t *testing.T, rounds, fulls, queued int) {
		first := fulls * rounds
		x := filled(t, rounds, fulls, queued)
		x.queue(t, objects(9000, rounds)...)
		x.wantDrained(t, queued+rounds, slices.Concat(objects(first, queued), objects(9000, rounds)))
		if got := x.d.All(); !slices.Equal(got, objects(0, first)) || x.d.Fulls() != fulls {
			t.Errorf("the full magazines behind calls of the queue: %v", got)
		}
		x = filled(t, rounds, fulls, queued)
		for range fulls {
			x.get(t)
		}
		x.wantNone(t)
		x.wantPut(t, objects(9000, rounds), api.OK)
		x.wantGot(t, objects(9000, rounds))
		if got := x.d.All(); !slices.Equal(got, objects(first, queued)) || x.d.Queued() != queued {
			t.Errorf("the queue behind calls of the full magazines: %v", got)
		}
	})
}

// All tells the full magazines' objects from the first one on, then the queue's; filled holds it against them.
func TestP11_4All(t *testing.T) {
	eachFilling(t, func(t *testing.T, rounds, fulls, queued int) {
		x := filled(t, rounds, fulls, queued)
		for range 2 {
			if got := x.d.All(); !slices.Equal(got, objects(0, fulls*rounds+queued)) {
				t.Errorf("All: %v", got)
			}
		}
		x.want(t, "All")
	})
}

// Whatever came first, full magazines stand ahead of the queue.
func TestP11_4AllByTurns(t *testing.T) {
	x := made(2)
	for i := range 5 {
		x.queue(t, object(100+i))
		x.wantPut(t, objects(2*i, 2), api.OK)
	}
	if got := x.d.All(); !slices.Equal(got, slices.Concat(objects(0, 10), objects(100, 5))) {
		t.Errorf("All: %v", got)
	}
	x.goesOn(t)
}

func TestP11_4AllIsACopy(t *testing.T) {
	eachFilling(t, func(t *testing.T, rounds, fulls, queued int) {
		x := filled(t, rounds, fulls, queued)
		m, l := x.d.All(), x.d.All()
		scrawl(m)
		x.want(t, "what All told was written over")
		if !slices.Equal(l, objects(0, fulls*rounds+queued)) {
			t.Errorf("two answers of All share their memory: %v", l)
		}
		x.put(t, objects(9000, rounds))
		x.queue(t, object(9100))
		scrawl(m)
		x.want(t, "what All told was written over")
		x.goesOn(t)
		if !slices.Equal(l, objects(0, fulls*rounds+queued)) {
			t.Errorf("what All told changes with the depot: %v", l)
		}
	})
}

// Flush tells what All tells, and behind it the depot is as a new one.
func TestP11_4Flush(t *testing.T) {
	eachFilling(t, func(t *testing.T, rounds, fulls, queued int) {
		x := filled(t, rounds, fulls, queued)
		if m := x.flush(t); !slices.Equal(m, objects(0, fulls*rounds+queued)) {
			t.Errorf("Flush: %v", m)
		}
		if x.d.Fulls() != 0 || x.d.Queued() != 0 || len(x.d.All()) != 0 || x.d.Rounds() != rounds {
			t.Errorf("behind Flush: %d full magazines, %d queued, %v", x.d.Fulls(), x.d.Queued(), x.d.All())
		}
		x.wantNone(t)
		x.wantDrained(t, 1, nil)
		if m := x.flush(t); len(m) > 0 {
			t.Errorf("Flush of what is empty: %v", m)
		}
		for i := range api.MaxFulls {
			x.wantPut(t, objects(i*rounds, rounds), api.OK)
		}
		x.wantPut(t, objects(9000, rounds), api.ErrFull)
		x.goesOn(t)
	})
}

func TestP11_4FlushToldOnce(t *testing.T) {
	eachFilling(t, func(t *testing.T, rounds, fulls, queued int) {
		x := filled(t, rounds, fulls, queued)
		m := x.d.Flush()
		x.m.flush()
		x.put(t, objects(9000, rounds))
		x.queue(t, objects(9100, 3)...)
		x.goesOn(t)
		if !slices.Equal(m, objects(0, fulls*rounds+queued)) {
			t.Errorf("what Flush told changes with the depot: %v", m)
		}
		x.put(t, objects(9000, rounds))
		x.queue(t, objects(9100, 3)...)
		scrawl(m)
		x.want(t, "what Flush told was written over")
		x.goesOn(t)
	})
}

func TestP11_WhateverNumbers(t *testing.T) {
	for _, rounds := range sizes {
		x := made(rounds)
		m := slices.Concat(odd, odd, odd)[:rounds]
		l := slices.Concat(odd, odd, odd)[3 : 3+rounds]
		x.queue(t, odd...)
		x.wantPut(t, m, api.OK)
		x.wantPut(t, l, api.OK)
		if all := x.d.All(); !slices.Equal(all, slices.Concat(m, l, odd)) {
			t.Errorf("All: %v", all)
		}
		x.wantGot(t, l)
		for _, o := range odd {
			x.wantDrained(t, 1, []api.Object{o})
		}
		x.wantGot(t, m)
		x.wantNone(t)
		x.goesOn(t)
	}
}

// What was put in comes out, each once; all of a magazine comes out together.
func TestP11_WhatWasPutComesOut(t *testing.T) {
	for rounds := 1; rounds <= api.MaxRounds; rounds++ {
		d, in, next, chance := depot.New(rounds), map[api.Object]int{}, 0, uint64(rounds)
		out := func(m []api.Object) {
			for _, o := range m {
				if in[o]--; in[o] != 0 {
					t.Fatalf("%d rounds: %v comes out, which was put in %d times", rounds, o, in[o]+1)
				}
			}
		}
		for range 1000 {
			chance = chance*6364136223846793005 + 1442695040888963407
			switch chance >> 62 {
			case 0:
				if d.Put(objects(next, rounds)) == api.OK {
					for _, o := range objects(next, rounds) {
						in[o]++
					}
				}
				next += rounds
			case 1:
				m, ok := d.Get()
				if ok && (len(m) != rounds || !slices.IsSortedFunc(m, byNumber) || number(m[rounds-1])-number(m[0]) != rounds-1) {
					t.Fatalf("%d rounds: Get: %v", rounds, m)
				}
				out(m)
			case 2:
				d.Queue(object(next))
				in[object(next)]++
				next++
			default:
				out(d.Drain(int(chance>>40) % 3))
			}
		}
		out(d.Flush())
		for o, many := range in {
			if many != 0 {
				t.Fatalf("%d rounds: %v has not come out", rounds, o)
			}
		}
	}
}

// number is the number that makes the object.
func number(o api.Object) int {
	return 8*o.Frame + o.Index
}

// byNumber compares objects by their numbers.
func byNumber(a, b api.Object) int {
	return number(a) - number(b)
}

// asks asks one thing; its objects are of that turn.
func (x both) asks(t *testing.T, what, turn int) {
	t.Helper()
	switch what {
	case 0:
		x.put(t, objects(turn, x.m.rounds))
	case 1:
		x.get(t)
	case 2:
		x.queue(t, object(turn))
	case 3:
		x.drain(t, 1)
	case 4:
		x.drain(t, turn%5-1)
	case 5:
		x.put(t, objects(turn, turn%(x.m.rounds+2)))
	default:
		x.flush(t)
	}
}

// All rows of five calls, of small depots.
func TestP11_AllRows(t *testing.T) {
	const calls, long = 7, 5
	rows := 1
	for range long {
		rows *= calls
	}
	for rounds := 1; rounds <= 2; rounds++ {
		for row := range rows {
			x := made(rounds)
			for left, turn := row, 1; turn <= long; left, turn = left/calls, turn+1 {
				x.asks(t, left%calls, 101*turn)
			}
			if t.Failed() {
				t.Fatalf("%d rounds, the row %d", rounds, row)
			}
		}
	}
}

// Many calls, one behind the other; now more comes in than goes out, now less.
func TestP11_InARow(t *testing.T) {
	for _, rounds := range sizes {
		x, chance := made(rounds), uint64(rounds)
		for turn := range 3000 {
			chance = chance*6364136223846793005 + 1442695040888963407
			what := int(chance>>32) % 8
			switch {
			case what == 6 && turn%16 > 0:
				what = 2
			case what == 7:
				what = turn / 300 % 2
			}
			x.asks(t, what, turn)
			if t.Failed() {
				t.Fatalf("%d rounds, the call %d", rounds, turn)
			}
		}
		x.goesOn(t)
	}
}

// wantNothing holds what a depot that is not there tells against what it is to tell.
func wantNothing(t *testing.T, d *depot.Depot) {
	t.Helper()
	if got := d.Rounds(); got != 0 {
		t.Errorf("Rounds: %d", got)
	}
	if got := d.Fulls(); got != 0 {
		t.Errorf("Fulls: %d", got)
	}
	if got := d.Queued(); got != 0 {
		t.Errorf("Queued: %d", got)
	}
	if got := d.All(); len(got) != 0 {
		t.Errorf("All: %v", got)
	}
	if m, ok := d.Get(); ok || len(m) != 0 {
		t.Errorf("Get: %v, %t", m, ok)
	}
	for _, n := range drains(0) {
		if m := d.Drain(n); len(m) != 0 {
			t.Errorf("Drain(%d): %v", n, m)
		}
	}
	if m := d.Flush(); len(m) != 0 {
		t.Errorf("Flush: %v", m)
	}
}

func TestP11_NotThere(t *testing.T) {
	for _, d := range []*depot.Depot{nil, {}, new(depot.Depot)} {
		wantNothing(t, d)
		for _, many := range []int{0, 1, 2, 31, 32, 33, 64, 1000} {
			m := objects(0, many)
			for range 2 {
				if e := d.Put(m); e != api.ErrNil {
					t.Errorf("Put of %d: error %d", many, e)
				}
			}
			if !slices.Equal(m, objects(0, many)) {
				t.Errorf("Put of %d: it is written to", many)
			}
			wantNothing(t, d)
		}
		if e := d.Put([]api.Object{}); e != api.ErrNil {
			t.Errorf("Put of none: error %d", e)
		}
		for _, o := range append(objects(0, 3), odd...) {
			d.Queue(o)
			wantNothing(t, d)
		}
	}
}
