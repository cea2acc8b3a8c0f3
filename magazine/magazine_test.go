package magazine_test

import (
	"math"
	"slices"
	"strconv"
	"testing"

	"byre/api"
	"byre/magazine"
)

// named are pairs of so many rounds, by what New is asked for.
var named = []struct{ asked, rounds int }{
	{math.MinInt, 1}, {math.MinInt + 1, 1}, {math.MinInt + 2, 1}, {-1 << 32, 1}, {1 - 1<<32, 1}, {-33, 1}, {-32, 1}, {-2, 1}, {-1, 1},
	{0, 1}, {1, 1}, {2, 2}, {3, 3}, {4, 4}, {15, 15}, {16, 16}, {30, 30}, {31, 31}, {32, 32},
	{33, 32}, {34, 32}, {64, 32}, {255, 32}, {256, 32}, {1 << 16, 32}, {1 << 32, 32}, {1<<32 + 1, 32}, {math.MaxInt - 1, 32}, {math.MaxInt, 32},
}

// odd are objects that no machine has, and a zero one.
var odd = []api.Object{
	{}, {Frame: -1}, {Index: -1}, {Frame: -1, Index: -1}, {Frame: 1, Index: 32}, {Frame: 1024, Index: 255},
	{Frame: math.MinInt, Index: math.MaxInt}, {Frame: math.MaxInt, Index: math.MinInt}, {Frame: 1 << 32}, {Index: 1 << 32}, {Frame: math.MaxInt, Index: math.MaxInt}, {Frame: math.MinInt, Index: math.MinInt},
}

// object is one that no other number makes.
func object(n int) api.Object {
	return api.Object{Frame: n / 8, Index: n % 8}
}

// objects are so many, from that number on.
func objects(from, many int) []api.Object {
	var m []api.Object
	for i := range many {
		m = append(m, object(from+i))
	}
	return m
}

// plain is a pair as two lists.
type plain struct {
	rounds        int
	loaded, other []api.Object
}

// all is what All is to answer.
func (m *plain) all() []api.Object {
	return slices.Concat(m.other, m.loaded)
}

// get is what Get is to answer, and to do.
func (m *plain) get() (api.Object, bool) {
	if len(m.loaded) == 0 && len(m.other) > 0 {
		m.loaded, m.other = m.other, m.loaded
	}
	k := len(m.loaded)
	if k == 0 {
		return api.Object{}, false
	}
	o := m.loaded[k-1]
	m.loaded = slices.Clone(m.loaded[:k-1])
	return o, true
}

// put is what Put is to answer, and to do.
func (m *plain) put(o api.Object) bool {
	if len(m.loaded) >= m.rounds && len(m.other) < m.rounds {
		m.loaded, m.other = m.other, m.loaded
	}
	if len(m.loaded) >= m.rounds {
		return false
	}
	m.loaded = slices.Concat(m.loaded, []api.Object{o})
	return true
}

// load is what Load is to answer, and to do.
func (m *plain) load(l []api.Object) api.Errno {
	switch {
	case len(l) < 1 || len(l) > m.rounds:
		return api.ErrArg
	case len(m.loaded)+len(m.other) > 0:
		return api.ErrBusy
	}
	m.loaded = slices.Clone(l)
	return api.OK
}

// unload is what Unload is to answer, and to do.
func (m *plain) unload() ([]api.Object, api.Errno) {
	if len(m.loaded)+len(m.other) < 2*m.rounds {
		return nil, api.ErrBusy
	}
	l := m.other
	m.other = nil
	return l, api.OK
}

// both is a pair and a plain one that is to be as it is.
type both struct {
	p *magazine.Pair
	m *plain
}

// made is a new pair.
func made(rounds int) both {
	return both{magazine.New(rounds), &plain{rounds: rounds}}
}

// want holds all that a pair tells against what it is to tell.
func (x both) want(t *testing.T, what string) {
	t.Helper()
	all := x.m.all()
	if got := x.p.Rounds(); got != x.m.rounds {
		t.Errorf("%s: %d rounds, not %d", what, got, x.m.rounds)
	}
	if got := x.p.Len(); got != len(all) {
		t.Errorf("%s: %d objects, not %d", what, got, len(all))
	}
	if got := x.p.All(); !slices.Equal(got, all) {
		t.Errorf("%s: the objects %v, not %v", what, got, all)
	}
}

// get holds what Get answers against what it is to answer.
func (x both) get(t *testing.T) (api.Object, bool) {
	t.Helper()
	o, ok := x.m.get()
	if got, had := x.p.Get(); got != o || had != ok {
		t.Errorf("Get: %v, %t; not %v, %t", got, had, o, ok)
	}
	x.want(t, "Get")
	return o, ok
}

// wantGot holds what Get answers, of the pair and of the plain one, against an object.
func (x both) wantGot(t *testing.T, o api.Object) {
	t.Helper()
	if got, ok := x.get(t); got != o || !ok {
		t.Errorf("Get: %v, %t; not %v", got, ok, o)
	}
}

// put holds what Put answers against what it is to answer.
func (x both) put(t *testing.T, o api.Object) bool {
	t.Helper()
	ok := x.m.put(o)
	if got := x.p.Put(o); got != ok {
		t.Errorf("Put(%v): %t, not %t", o, got, ok)
	}
	x.want(t, "Put")
	return ok
}

// wantPut puts objects for which there is to be room, by the pair and by the plain one.
func (x both) wantPut(t *testing.T, m ...api.Object) {
	t.Helper()
	for _, o := range m {
		if !x.put(t, o) {
			t.Errorf("Put(%v): false", o)
		}
	}
}

// load holds what Load answers against what it is to answer.
func (x both) load(t *testing.T, m []api.Object) api.Errno {
	t.Helper()
	err := x.m.load(m)
	before := slices.Clone(m)
	if e := x.p.Load(m); e != err {
		t.Errorf("Load of %d: error %d, not %d", len(m), e, err)
	}
	if !slices.Equal(m, before) {
		t.Errorf("Load of %d: it is written to", len(m))
	}
	x.want(t, "Load")
	return err
}

// wantLoad holds what Load answers, of the pair and of the plain one, against the error that it is to tell.
func (x both) wantLoad(t *testing.T, m []api.Object, want api.Errno) {
	t.Helper()
	if e := x.load(t, m); e != want {
		t.Errorf("Load of %d: error %d, not %d", len(m), e, want)
	}
}

// unload holds what Unload answers against what it is to answer.
func (x both) unload(t *testing.T) ([]api.Object, api.Errno) {
	t.Helper()
	m, err := x.m.unload()
	if got, e := x.p.Unload(); !slices.Equal(got, m) || e != err {
		t.Errorf("Unload: %v, error %d; not %v, error %d", got, e, m, err)
	}
	x.want(t, "Unload")
	return m, err
}

// wantUnloaded holds what Unload answers, of the pair and of the plain one, against objects.
func (x both) wantUnloaded(t *testing.T, want []api.Object) {
	t.Helper()
	if m, e := x.unload(t); !slices.Equal(m, want) || e != api.OK {
		t.Errorf("Unload: %v, error %d; not %v", m, e, want)
	}
}

// wantBusy holds what Unload answers, of the pair and of the plain one, against its refusal.
func (x both) wantBusy(t *testing.T) {
	t.Helper()
	for range 2 {
		if m, e := x.unload(t); len(m) != 0 || e != api.ErrBusy {
			t.Errorf("Unload: %v, error %d", m, e)
		}
	}
}

// drains gets all that there is, and once more.
func (x both) drains(t *testing.T) {
	t.Helper()
	for range x.m.rounds * 2 {
		x.get(t)
	}
	for range 2 {
		if o, ok := x.get(t); ok || o != (api.Object{}) {
			t.Errorf("Get of an empty pair: %v, %t", o, ok)
		}
	}
}

// fills puts as many as there is room for, and once more.
func (x both) fills(t *testing.T) {
	t.Helper()
	for i := range x.m.rounds * 2 {
		x.put(t, object(500+i))
	}
	for i := range 2 {
		if x.put(t, object(600+i)) {
			t.Error("Put into a full pair: true")
		}
	}
}

// goesOn holds all that comes then against what is to come: which magazine is which is told by that alone.
func (x both) goesOn(t *testing.T) {
	t.Helper()
	x.fills(t)
	x.unload(t)
	x.drains(t)
	x.wantLoad(t, objects(700, x.m.rounds), api.OK)
	x.fills(t)
	x.drains(t)
}

// filled is a pair with the objects from 0 on in its other magazine, then in its loaded one. By what calls do the other one is empty or full.
func filled(t *testing.T, rounds, other, loaded int) both {
	t.Helper()
	x := made(rounds)
	x.wantPut(t, objects(0, other+loaded)...)
	if other > 0 && loaded == 0 {
		x.wantPut(t, object(400))
		x.wantGot(t, object(400))
	}
	if len(x.m.other) != other || len(x.m.loaded) != loaded {
		t.Fatalf("%d rounds: %d and %d objects, not %d and %d", rounds, len(x.m.other), len(x.m.loaded), other, loaded)
	}
	return x
}

// eachFilling asks of each filling, of magazines of all sizes.
func eachFilling(t *testing.T, ask func(t *testing.T, rounds, other, loaded int)) {
	t.Helper()
	for rounds := 1; rounds <= api.MaxRounds; rounds++ {
		for _, other := range []int{0, rounds} {
			for loaded := range rounds + 1 {
				ask(t, rounds, other, loaded)
				if t.Failed() {
					t.Fatalf("%d rounds, %d objects in the other magazine, %d in the loaded one", rounds, other, loaded)
				}
			}
		}
	}
}

func TestP10_Examples(t *testing.T) {
	a, b, c, d, e := object(1), object(2), object(3), object(4), object(5)
	p := magazine.New(2)
	for _, o := range []api.Object{a, b, c, d} {
		if !p.Put(o) {
			t.Errorf("Put(%v): false", o)
		}
	}
	if p.Put(e) {
		t.Error("Put into a full pair: true")
	}
	if o, ok := p.Get(); o != d || !ok {
		t.Errorf("Get: %v, %t", o, ok)
	}
	if !p.Put(d) {
		t.Error("Put: false")
	}
	if m, err := p.Unload(); !slices.Equal(m, []api.Object{a, b}) || err != api.OK {
		t.Errorf("Unload: %v, error %d", m, err)
	}
	if m := p.All(); !slices.Equal(m, []api.Object{c, d}) || p.Len() != 2 {
		t.Errorf("All: %v, of %d", m, p.Len())
	}
}

func TestP10_1New(t *testing.T) {
	for _, n := range named {
		x := both{magazine.New(n.asked), &plain{rounds: n.rounds}}
		what := "New(" + strconv.Itoa(n.asked) + ")"
		x.want(t, what)
		x.wantBusy(t)
		x.drains(t)
		x.want(t, what)
		x.wantPut(t, objects(0, 2*n.rounds)...)
		x.goesOn(t)
	}
}

func TestP10_1TwoPairs(t *testing.T) {
	x, y := made(2), made(2)
	x.wantPut(t, objects(0, 3)...)
	y.want(t, "another pair")
	y.wantPut(t, objects(10, 4)...)
	x.want(t, "another pair")
	y.wantUnloaded(t, objects(10, 2))
	x.wantGot(t, object(2))
	y.want(t, "another pair")
	x.goesOn(t)
	y.want(t, "another pair")
	y.goesOn(t)
}

// Each Get takes the loaded magazine's last object, or, if that one is empty, the other one's.
func TestP10_2Get(t *testing.T) {
	eachFilling(t, func(t *testing.T, rounds, other, loaded int) {
		x := filled(t, rounds, other, loaded)
		for many := other + loaded; many > 0; many-- {
			x.wantGot(t, object(many-1))
		}
		x.drains(t)
		x.goesOn(t)
		x = filled(t, rounds, other, loaded)
		x.get(t)
		x.goesOn(t)
	})
}

// Each Put makes its object the loaded magazine's last one, or, if that one is full, the other one's.
func TestP10_2Put(t *testing.T) {
	eachFilling(t, func(t *testing.T, rounds, other, loaded int) {
		x := filled(t, rounds, other, loaded)
		for many := other + loaded; many < 2*rounds; many++ {
			x.wantPut(t, object(many))
		}
		x.fills(t)
		if got := x.p.All(); !slices.Equal(got, objects(0, 2*rounds)) {
			t.Errorf("a full pair: %v", got)
		}
		x.goesOn(t)
		x = filled(t, rounds, other, loaded)
		x.put(t, object(300))
		x.goesOn(t)
	})
}

// With the loaded magazine alone empty they change places: what is put then comes behind what the other one had.
func TestP10_2GetChangesPlaces(t *testing.T) {
	x := filled(t, 3, 3, 0)
	x.wantGot(t, object(2))
	x.wantPut(t, object(20), object(21), object(22), object(23))
	x.wantUnloaded(t, []api.Object{object(0), object(1), object(20)})
	x.wantPut(t, object(24))
	x.wantBusy(t)
	x.wantPut(t, object(25), object(26))
	x.wantUnloaded(t, objects(21, 3))
	x.wantGot(t, object(26))
}

// With the loaded magazine alone full they change places: it is the other one's objects that are unloaded then.
func TestP10_2PutChangesPlaces(t *testing.T) {
	x := filled(t, 3, 0, 3)
	x.wantPut(t, object(3))
	x.wantBusy(t)
	x.wantPut(t, object(4), object(5))
	x.wantUnloaded(t, objects(0, 3))
	x.wantPut(t, object(6))
	x.wantGot(t, object(6))
	x.wantGot(t, object(5))
	x.wantPut(t, object(7), object(8), object(9), object(10))
	x.wantUnloaded(t, []api.Object{object(3), object(4), object(7)})
	x.wantGot(t, object(10))
}

// A Get or a Put that says false leaves all as it was, however often it is asked.
func TestP10_2SaysFalse(t *testing.T) {
	for rounds := 1; rounds <= api.MaxRounds; rounds++ {
		empty := made(rounds)
		for range 3 {
			empty.drains(t)
		}
		empty.goesOn(t)
		full := filled(t, rounds, rounds, rounds)
		for range 3 {
			full.fills(t)
		}
		if got := full.p.All(); !slices.Equal(got, objects(0, 2*rounds)) {
			t.Errorf("%d rounds: a full pair has %v", rounds, got)
		}
		full.wantUnloaded(t, objects(0, rounds))
		full.wantGot(t, object(2*rounds-1))
		full.goesOn(t)
	}
}

// By turns at each filling: what was put is got at once, and what was got is put back where it was.
func TestP10_2ByTurns(t *testing.T) {
	eachFilling(t, func(t *testing.T, rounds, other, loaded int) {
		put, got := filled(t, rounds, other, loaded), filled(t, rounds, other, loaded)
		many := other + loaded
		for i := range 5 {
			if many < 2*rounds {
				put.wantPut(t, object(200+i))
				put.wantGot(t, object(200+i))
			} else if put.put(t, object(200+i)) {
				t.Error("Put into a full pair: true")
			}
			if o, ok := got.get(t); ok {
				got.wantPut(t, o)
			}
			for _, x := range []both{put, got} {
				if all := x.p.All(); !slices.Equal(all, objects(0, many)) {
					t.Errorf("by turns: %v", all)
				}
			}
		}
		put.goesOn(t)
		got.goesOn(t)
	})
}

// One object more than once is that object as often.
func TestP10_2WhateverNumbers(t *testing.T) {
	for _, rounds := range []int{1, 2, 6, 7, 32} {
		x := made(rounds)
		m := slices.Concat(odd, odd, odd, odd, odd, odd)[:2*rounds]
		x.wantPut(t, m...)
		x.fills(t)
		x.wantUnloaded(t, m[:rounds])
		for _, o := range slices.Backward(m[rounds:]) {
			x.wantGot(t, o)
		}
		x.wantLoad(t, m[:rounds], api.OK)
		for _, o := range slices.Backward(m[:rounds]) {
			x.wantGot(t, o)
		}
		for _, o := range odd {
			x.wantPut(t, o)
			x.wantGot(t, o)
			x.wantLoad(t, []api.Object{o}, api.OK)
			x.wantPut(t, o)
			x.wantGot(t, o)
			x.wantGot(t, o)
		}
		x.goesOn(t)
	}
}

// A list of none, that is there or not, and one of too many is refused, whether there is room or not.
func TestP10_3LoadOfWrongMany(t *testing.T) {
	eachFilling(t, func(t *testing.T, rounds, other, loaded int) {
		x := filled(t, rounds, other, loaded)
		for _, m := range [][]api.Object{nil, {}, odd[:0], objects(100, rounds+1), objects(100, rounds+2), objects(100, 2*rounds), objects(100, 1000)} {
			if len(m) == 0 || len(m) > rounds {
				x.wantLoad(t, m, api.ErrArg)
			}
		}
		x.goesOn(t)
	})
}

// As many as the rounds, or less, are loaded, if both magazines are empty, and not else.
func TestP10_3Load(t *testing.T) {
	eachFilling(t, func(t *testing.T, rounds, other, loaded int) {
		x := filled(t, rounds, other, loaded)
		for many := 1; many <= rounds; many++ {
			if other+loaded > 0 {
				x.wantLoad(t, objects(100, many), api.ErrBusy)
				continue
			}
			x.wantLoad(t, objects(100, many), api.OK)
			x.wantLoad(t, objects(200, many), api.ErrBusy)
			for i := range many {
				x.wantGot(t, object(100+many-1-i))
			}
		}
		x.goesOn(t)
	})
}

// A pair that was emptied is loaded as a new one is, whichever magazine was which.
func TestP10_3LoadOfAnEmptied(t *testing.T) {
	eachFilling(t, func(t *testing.T, rounds, other, loaded int) {
		x := filled(t, rounds, other, loaded)
		for range other + loaded {
			x.wantLoad(t, objects(100, rounds), api.ErrBusy)
			x.get(t)
		}
		x.wantLoad(t, objects(100, rounds), api.OK)
		x.wantLoad(t, objects(200, rounds), api.ErrBusy)
		x.wantBusy(t)
		x.wantPut(t, objects(300, rounds)...)
		x.wantUnloaded(t, objects(100, rounds))
		x.wantLoad(t, objects(400, 1), api.ErrBusy)
		x.wantGot(t, object(300+rounds-1))
		x.goesOn(t)
	})
}

func TestP10_3Unload(t *testing.T) {
	eachFilling(t, func(t *testing.T, rounds, other, loaded int) {
		x := filled(t, rounds, other, loaded)
		if other+loaded < 2*rounds {
			x.wantBusy(t)
			x.goesOn(t)
			return
		}
		x.wantUnloaded(t, objects(0, rounds))
		if all := x.p.All(); !slices.Equal(all, objects(rounds, rounds)) {
			t.Errorf("behind Unload: %v", all)
		}
		x.wantBusy(t)
		for i := range rounds {
			x.wantPut(t, object(100+i))
		}
		x.wantUnloaded(t, objects(rounds, rounds))
		for i := range rounds {
			x.wantGot(t, object(100+rounds-1-i))
		}
		x.goesOn(t)
	})
}

// What was loaded may be written over, behind its end, too; and it is not written to.
func TestP10_3LoadKeepsNothing(t *testing.T) {
	for _, rounds := range []int{1, 2, 3, 8, 32} {
		for many := 1; many <= rounds; many++ {
			x := made(rounds)
			whole := objects(100, rounds+8)
			x.wantLoad(t, whole[:many], api.OK)
			x.fills(t)
			x.drains(t)
			if !slices.Equal(whole, objects(100, rounds+8)) {
				t.Errorf("Load of %d: it is written to: %v", many, whole)
			}
			x.wantLoad(t, whole[:many], api.OK)
			clear(whole)
			x.want(t, "what was loaded was written over")
			for i := range many {
				x.wantGot(t, object(100+many-1-i))
			}
		}
	}
}

// scrawl writes over a list, and behind its end.
func scrawl(m []api.Object) {
	clear(m[:cap(m)])
	m = append(m, object(990), object(991))
	clear(m)
}

func TestP10_3UnloadToldOnce(t *testing.T) {
	for _, rounds := range []int{1, 2, 3, 8, 32} {
		x := filled(t, rounds, rounds, rounds)
		m, e := x.p.Unload()
		x.m.unload()
		if e != api.OK || len(m) != rounds {
			t.Fatalf("Unload: %v, error %d", m, e)
		}
		x.goesOn(t)
		if !slices.Equal(m, objects(0, rounds)) {
			t.Errorf("what Unload told changes with the pair: %v", m)
		}
		x = filled(t, rounds, rounds, rounds)
		m, _ = x.p.Unload()
		x.m.unload()
		scrawl(m)
		x.want(t, "what Unload told was written over")
		x.wantPut(t, object(100))
		scrawl(m)
		x.goesOn(t)
	}
}

// All tells the other magazine's objects, then the loaded one's.
func TestP10_4All(t *testing.T) {
	eachFilling(t, func(t *testing.T, rounds, other, loaded int) {
		x := filled(t, rounds, other, loaded)
		if got := x.p.All(); !slices.Equal(got, objects(0, other+loaded)) || x.p.Len() != other+loaded {
			t.Errorf("All: %v, of %d", got, x.p.Len())
		}
		if got := x.p.Rounds(); got != rounds {
			t.Errorf("Rounds: %d", got)
		}
	})
}

func TestP10_4AllIsACopy(t *testing.T) {
	eachFilling(t, func(t *testing.T, rounds, other, loaded int) {
		x := filled(t, rounds, other, loaded)
		m, l := x.p.All(), x.p.All()
		scrawl(m)
		x.want(t, "what All told was written over")
		if !slices.Equal(l, objects(0, other+loaded)) {
			t.Errorf("two answers of All share their memory: %v", l)
		}
		x.put(t, object(100))
		scrawl(m)
		x.goesOn(t)
		if !slices.Equal(l, objects(0, other+loaded)) {
			t.Errorf("what All told changes with the pair: %v", l)
		}
	})
}

// What was put is got, each once, and what came last goes first: a pair is a pile, of which an Unload takes the lower half.
func TestP10_WhatWasPutIsGot(t *testing.T) {
	for rounds := 1; rounds <= api.MaxRounds; rounds++ {
		p, pile, next := magazine.New(rounds), []api.Object{}, 0
		chance := uint64(rounds)
		for range 2000 {
			chance = chance*6364136223846793005 + 1442695040888963407
			switch len(pile) {
			case 2 * rounds:
				m, e := p.Unload()
				if e != api.OK || !slices.Equal(m, pile[:rounds]) {
					t.Fatalf("%d rounds: Unload: %v, error %d; not %v", rounds, m, e, pile[:rounds])
				}
				pile = slices.Clone(pile[rounds:])
			case 0:
				pile = objects(next, int(chance>>40)%rounds+1)
				next += len(pile)
				if e := p.Load(pile); e != api.OK {
					t.Fatalf("%d rounds: Load of %d: error %d", rounds, len(pile), e)
				}
			}
			if k := len(pile) - 1; chance>>60 < 8 {
				if o, ok := p.Get(); !ok || o != pile[k] {
					t.Fatalf("%d rounds: Get: %v, %t; not %v", rounds, o, ok, pile[k])
				}
				pile = slices.Clone(pile[:k])
			} else {
				if !p.Put(object(next)) {
					t.Fatalf("%d rounds: Put: false, with %d objects", rounds, len(pile))
				}
				pile = append(pile, object(next))
				next++
			}
			if m := p.All(); p.Len() != len(pile) || !slices.Equal(m, pile) {
				t.Fatalf("%d rounds: All: %v, not %v", rounds, m, pile)
			}
		}
	}
}

// asks asks one thing; its objects are of that turn.
func (x both) asks(t *testing.T, what, turn int) {
	t.Helper()
	switch what {
	case 0:
		x.put(t, object(turn))
	case 1:
		x.get(t)
	case 2:
		x.load(t, objects(turn, x.m.rounds))
	case 3:
		x.load(t, objects(turn, turn%(x.m.rounds+2)))
	default:
		x.unload(t)
	}
}

// All rows of six calls, of small magazines.
func TestP10_AllRows(t *testing.T) {
	const calls, long = 5, 6
	rows := 1
	for range long {
		rows *= calls
	}
	for rounds := 1; rounds <= 3; rounds++ {
		for row := range rows {
			x := made(rounds)
			for left, turn := row, 1; turn <= long; left, turn = left/calls, turn+1 {
				x.asks(t, left%calls, 100*turn)
			}
			if t.Failed() {
				t.Fatalf("%d rounds, the row %d", rounds, row)
			}
		}
	}
}

// Many calls, one behind the other; now more is put than got, now less.
func TestP10_InARow(t *testing.T) {
	for rounds := 1; rounds <= api.MaxRounds; rounds++ {
		x, chance := made(rounds), uint64(rounds)
		for turn := range 3000 {
			chance = chance*6364136223846793005 + 1442695040888963407
			what := int(chance >> 61)
			if what > 4 {
				what = turn / (3 * rounds) % 2
			}
			x.asks(t, what, turn)
			if t.Failed() {
				t.Fatalf("%d rounds, the call %d", rounds, turn)
			}
		}
		x.goesOn(t)
	}
}

// wantNothing holds what a pair that is not there tells against what it is to tell.
func wantNothing(t *testing.T, p *magazine.Pair) {
	t.Helper()
	if got := p.Rounds(); got != 0 {
		t.Errorf("Rounds: %d", got)
	}
	if got := p.Len(); got != 0 {
		t.Errorf("Len: %d", got)
	}
	if got := p.All(); len(got) != 0 {
		t.Errorf("All: %v", got)
	}
	if o, ok := p.Get(); ok || o != (api.Object{}) {
		t.Errorf("Get: %v, %t", o, ok)
	}
	if m, e := p.Unload(); len(m) != 0 || e != api.ErrNil {
		t.Errorf("Unload: %v, error %d", m, e)
	}
}

func TestP10_NotThere(t *testing.T) {
	for _, p := range []*magazine.Pair{nil, {}, new(magazine.Pair)} {
		wantNothing(t, p)
		for _, o := range append(objects(0, 3), odd...) {
			if p.Put(o) {
				t.Errorf("Put(%v): true", o)
			}
			wantNothing(t, p)
		}
		for _, many := range []int{0, 1, 2, 31, 32, 33, 64, 1000} {
			m := objects(0, many)
			if e := p.Load(m); e != api.ErrNil {
				t.Errorf("Load of %d: error %d", many, e)
			}
			if !slices.Equal(m, objects(0, many)) {
				t.Errorf("Load of %d: it is written to", many)
			}
			wantNothing(t, p)
		}
		if e := p.Load([]api.Object{}); e != api.ErrNil {
			t.Errorf("Load of none: error %d", e)
		}
		wantNothing(t, p)
	}
}
