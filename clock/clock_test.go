package clock_test

import (
	"math"
	"slices"
	"testing"

	"byre/api"
	"byre/clock"
)

// numbers are frames, those that may be and others, of which most clocks have but a few.
var numbers = []int{
	math.MinInt, math.MinInt + 1, math.MinInt + 2, -1 << 62, -1 << 32, 1 - 1<<32, -1024, -13, -4, -3, -2, -1,
	0, 1, 2, 3, 4, 5, 6, 7, 8, 9, 10, 11, 12, 13, 14, 15, 16, 63, 64, 127, 128, 255, 256, 1023, 1024, 1 << 16,
	1 << 31, 1 << 32, 1<<32 + 1, 1<<32 + 13, 1 << 62, 1<<62 + 1, math.MaxInt - 1, math.MaxInt,
}

// place is a frame in a ring, and how it is.
type place struct {
	frame           int
	active, touched bool
}

// plain is a ring that stays as it lies; its hand goes along it, behind the last place to the first one again.
type plain struct {
	ring []place
	hand int
}

// find is where the frame stands in the ring; below 0: nowhere.
func (p *plain) find(frame int) int {
	return slices.IndexFunc(p.ring, func(x place) bool { return x.frame == frame })
}

// add is what Add is to answer, and to do.
func (p *plain) add(frame int) api.Errno {
	switch {
	case frame < 0:
		return api.ErrArg
	case p.find(frame) >= 0:
		return api.ErrTwice
	}
	p.ring = slices.Insert(p.ring, p.hand, place{frame, true, true})
	if len(p.ring) > 1 {
		p.hand++
	}
	return api.OK
}

// remove is what Remove is to answer, and to do.
func (p *plain) remove(frame int) api.Errno {
	at := p.find(frame)
	if at < 0 {
		return api.ErrNone
	}
	p.ring = slices.Delete(p.ring, at, at+1)
	if at < p.hand {
		p.hand--
	}
	if p.hand == len(p.ring) {
		p.hand = 0
	}
	return api.OK
}

// touch is what Touch is to answer, and to do.
func (p *plain) touch(frame int) api.Errno {
	at := p.find(frame)
	if at < 0 {
		return api.ErrNone
	}
	p.ring[at].touched = true
	return api.OK
}

// next is what Next is to answer, and to do; and at how many frames the hand is to look.
func (p *plain) next() (frame int, ok bool, looks int) {
	for len(p.ring) > 0 {
		x := &p.ring[p.hand]
		p.hand = (p.hand + 1) % len(p.ring)
		looks++
		switch {
		case x.touched:
			x.touched, x.active = false, true
		case x.active:
			x.active = false
		default:
			return x.frame, true, looks
		}
	}
	return 0, false, 0
}

// active is what Active is to answer.
func (p *plain) active() int {
	n := 0
	for _, x := range p.ring {
		if x.active {
			n++
		}
	}
	return n
}

// places are all places of the ring, from the one on at which the hand is.
func (p *plain) places() []place {
	return slices.Concat(p.ring[p.hand:], p.ring[:p.hand])
}

// all is what All is to tell.
func (p *plain) all() []int {
	var l []int
	for _, x := range p.places() {
		l = append(l, x.frame)
	}
	return l
}

// both are a clock and a plain ring that is to be as it is.
type both struct {
	c *clock.Clock
	p *plain
}

// made is a clock, and its ring, of these frames, added one after the other.
func made(t *testing.T, frames ...int) both {
	t.Helper()
	x := both{clock.New(), &plain{}}
	for _, frame := range frames {
		x.wantAdd(t, frame, api.OK)
	}
	x.want(t, "some frames added")
	return x
}

// put is a clock, and its ring, that is as these places say, with the hand at the first one.
func put(t *testing.T, places ...place) both {
	t.Helper()
	const end = math.MaxInt - 99 // told once a round, so that a round can be seen; gone in the end
	x := both{clock.New(), &plain{}}
	for _, at := range places {
		x.wantAdd(t, at.frame, api.OK)
	}
	x.wantAdd(t, end, api.OK)
	round := func() {
		for x.holdNext(t) != end {
		}
	}
	round()
	for _, at := range places {
		if at.active {
			x.wantTouch(t, at.frame, api.OK)
		}
	}
	round()
	x.wantRemove(t, end, api.OK)
	for _, at := range places {
		if at.touched {
			x.wantTouch(t, at.frame, api.OK)
		}
	}
	x.wantPlaces(t, "what was put", places...)
	return x
}

// mixed are places of each kind.
func mixed() []place {
	return []place{{13, true, true}, {10, false, false}, {15, true, false}, {12, false, true}, {14, false, false}, {11, true, false}}
}

// kinds are so many places, from the frame 0 on: each row of kinds that there may be.
func kinds(many int) [][]place {
	rows := [][]place{nil}
	for frame := range many {
		var longer [][]place
		for _, row := range rows {
			for kind := range 4 {
				longer = append(longer, append(slices.Clone(row), place{frame, kind&1 > 0, kind&2 > 0}))
			}
		}
		rows = longer
	}
	return rows
}

// holdAdd adds the frame to the clock, and to the ring, and tells what was to be answered.
func (x both) holdAdd(t *testing.T, frame int) api.Errno {
	t.Helper()
	err := x.p.add(frame)
	if e := x.c.Add(frame); e != err {
		t.Errorf("Add(%d): error %d, not %d", frame, e, err)
	}
	return err
}

// holdRemove removes the frame from the clock, and from the ring, and tells what was to be answered.
func (x both) holdRemove(t *testing.T, frame int) api.Errno {
	t.Helper()
	err := x.p.remove(frame)
	if e := x.c.Remove(frame); e != err {
		t.Errorf("Remove(%d): error %d, not %d", frame, e, err)
	}
	return err
}

// holdTouch touches the frame in the clock, and in the ring, and tells what was to be answered.
func (x both) holdTouch(t *testing.T, frame int) api.Errno {
	t.Helper()
	err := x.p.touch(frame)
	if e := x.c.Touch(frame); e != err {
		t.Errorf("Touch(%d): error %d, not %d", frame, e, err)
	}
	return err
}

// holdNext goes on with the clock's hand, and with the ring's, and tells which frame was to be told.
func (x both) holdNext(t *testing.T) int {
	t.Helper()
	want, had, looks := x.p.next()
	if many := len(x.p.ring); looks > 3*many || had != (many > 0) {
		t.Errorf("%d of %d frames were to be looked at", looks, many)
	}
	if frame, ok := x.c.Next(); frame != want || ok != had {
		t.Fatalf("Next: %d, %t; not %d, %t", frame, ok, want, had)
	}
	return want
}

// wantAdd adds the frame, and holds the answer against the error that it is to be.
func (x both) wantAdd(t *testing.T, frame int, err api.Errno) {
	t.Helper()
	if e := x.holdAdd(t, frame); e != err {
		t.Errorf("Add(%d) was to be told the error %d, not %d", frame, err, e)
	}
}

// wantRemove removes the frame, and holds the answer against the error that it is to be.
func (x both) wantRemove(t *testing.T, frame int, err api.Errno) {
	t.Helper()
	if e := x.holdRemove(t, frame); e != err {
		t.Errorf("Remove(%d) was to be told the error %d, not %d", frame, err, e)
	}
}

// wantTouch touches the frame, and holds the answer against the error that it is to be.
func (x both) wantTouch(t *testing.T, frame int, err api.Errno) {
	t.Helper()
	if e := x.holdTouch(t, frame); e != err {
		t.Errorf("Touch(%d) was to be told the error %d, not %d", frame, err, e)
	}
}

// wantNext goes on with the hand, once for each of the frames, and holds each answer against the frame.
func (x both) wantNext(t *testing.T, frames ...int) {
	t.Helper()
	for _, frame := range frames {
		if got := x.holdNext(t); got != frame {
			t.Errorf("Next was to tell %d, not %d", frame, got)
		}
	}
}

// wantNone holds what Next tells of no frame.
func wantNone(t *testing.T, c *clock.Clock) {
	t.Helper()
	if frame, ok := c.Next(); frame != 0 || ok {
		t.Errorf("Next of no frame: %d, %t", frame, ok)
	}
}

// collect is what such a function tells.
func collect(all func(func(int) bool)) []int {
	var l []int
	for frame := range all {
		l = append(l, frame)
	}
	return l
}

// wantAll holds what All tells against these frames.
func wantAll(t *testing.T, what string, c *clock.Clock, frames ...int) {
	t.Helper()
	all := c.All()
	if all == nil {
		t.Fatalf("%s: All is nil", what)
	}
	if got := collect(all); !slices.Equal(got, frames) {
		t.Errorf("%s: All: %v, not %v", what, got, frames)
	}
}

// wantLooks holds what the clock tells, as long as its hand does not go on, against its ring.
func (x both) wantLooks(t *testing.T, what string) {
	t.Helper()
	if x.c == nil {
		t.Fatalf("%s: no clock", what)
	}
	if n, active := x.c.Len(), x.c.Active(); n != len(x.p.ring) || active != x.p.active() {
		t.Errorf("%s: %d of %d frames are active, not %d of %d", what, active, n, x.p.active(), len(x.p.ring))
	}
	wantAll(t, what, x.c, x.p.all()...)
}

// wantAlone holds of each frame whether it is active and touched: in a copy that has but that one, and behind it one that is touched, which only a touched one is told behind.
func (x both) wantAlone(t *testing.T, what string) {
	t.Helper()
	for _, frame := range x.p.all() {
		y := x.copied(t)
		for _, other := range x.p.all() {
			if other != frame {
				y.wantRemove(t, other, api.OK)
			}
		}
		y.wantLooks(t, what+", one alone")
		y.wantAdd(t, math.MaxInt-98, api.OK)
		y.wantNext(t, frame)
		y.wantLooks(t, what+", one alone, behind a Next")
	}
}

// want holds all that the clock tells, and what it is to tell later on, against its ring.
func (x both) want(t *testing.T, what string) {
	t.Helper()
	x.wantLooks(t, what)
	for _, frame := range append(x.p.all(), numbers...) {
		if had := x.c.Has(frame); had != (x.p.find(frame) >= 0) {
			t.Errorf("%s: Has(%d): %t", what, frame, had)
		}
	}
	x.wantAlone(t, what)
	y := x.copied(t)
	for range 2*len(x.p.ring) + 1 {
		y.holdNext(t)
		y.wantLooks(t, what+", behind a Next")
	}
	x.wantLooks(t, what+", behind a look")
}

// wantPlaces holds all that the clock tells against these places, from the one on at which the hand is.
func (x both) wantPlaces(t *testing.T, what string, places ...place) {
	t.Helper()
	if !slices.Equal(x.p.places(), places) {
		t.Errorf("%s: the ring was to be %v, not %v", what, places, x.p.places())
	}
	x.want(t, what)
}

// copied is a copy of the clock, and of its ring.
func (x both) copied(t *testing.T) both {
	t.Helper()
	y := both{x.c.Copy(), &plain{slices.Clone(x.p.ring), x.p.hand}}
	if y.c == nil || y.c == x.c {
		t.Fatal("Copy is not another one")
	}
	return y
}

// chance are numbers that look like chance, and are the same each time.
type chance uint64

// below is the next number, from 0 on, below n.
func (c *chance) below(n int) int {
	*c = *c*6364136223846793005 + 1442695040888963407
	return int(uint64(*c)>>33) % n
}

func TestExamples(t *testing.T) {
	c := clock.New()
	next := func(want int) {
		t.Helper()
		if frame, ok := c.Next(); frame != want || !ok {
			t.Errorf("Next: %d, %t; not %d", frame, ok, want)
		}
	}
	for _, frame := range []int{1, 2, 3} {
		if e := c.Add(frame); e != api.OK {
			t.Errorf("Add(%d): error %d", frame, e)
		}
	}
	next(1)
	if e := c.Touch(2); e != api.OK {
		t.Errorf("Touch(2): error %d", e)
	}
	next(3)
	next(1)
	both{c, &plain{[]place{{1, false, false}, {2, true, false}, {3, false, false}}, 1}}.want(t, "the examples")
}

func TestP17_1New(t *testing.T) {
	x := both{clock.New(), &plain{}}
	x.want(t, "New")
	wantNone(t, x.c)
	for _, frame := range numbers {
		x.wantRemove(t, frame, api.ErrNone)
		x.wantTouch(t, frame, api.ErrNone)
	}
	x.want(t, "New, behind what was refused")
}

// Clocks of one making know nothing of each other.
func TestP17_1NewAgain(t *testing.T) {
	x, y := made(t, 1, 2), made(t)
	y.want(t, "another clock")
	y.wantAdd(t, 2, api.OK)
	y.wantNext(t, 2)
	x.want(t, "the first clock")
	x.wantRemove(t, 2, api.OK)
	y.want(t, "another clock")
	made(t)
}

// The first one has the hand, each other one stands behind those that came before, and all are active and touched.
func TestP17_1Add(t *testing.T) {
	x := made(t)
	var places []place
	for _, frame := range []int{7, 3, 0, math.MaxInt, 5, 1} {
		x.wantAdd(t, frame, api.OK)
		places = append(places, place{frame, true, true})
		x.wantPlaces(t, "Add", places...)
	}
	x.wantNext(t, 7, 3, 0, math.MaxInt, 5, 1, 7)
}

// Each frame from 0 on may come, once; what is refused changes nothing.
func TestP17_1AddOfAll(t *testing.T) {
	for _, x := range []both{made(t), made(t, 20), made(t, 20, 21, 22), put(t, mixed()...)} {
		for _, frame := range numbers {
			there := x.c.Has(frame)
			switch e := x.holdAdd(t, frame); {
			case frame < 0 && e != api.ErrArg, frame >= 0 && there && e != api.ErrTwice, frame >= 0 && !there && e != api.OK:
				t.Errorf("Add(%d) was to be told %d", frame, e)
			}
			x.wantLooks(t, "Add")
			if frame >= 0 {
				x.wantAdd(t, frame, api.ErrTwice)
				x.wantLooks(t, "Add twice")
			}
			if frame >= 0 && !there {
				x.wantRemove(t, frame, api.OK)
			}
		}
		x.want(t, "Add, and Remove")
	}
}

func TestP17_1AddOfWrongOnes(t *testing.T) {
	for _, frame := range []int{math.MinInt, math.MinInt + 1, math.MinInt + 13, -1 << 62, -1 << 32, -13, -10, -2, -1} {
		for _, places := range [][]place{nil, {{0, false, false}}, mixed()} {
			x := put(t, places...)
			x.wantAdd(t, frame, api.ErrArg)
			x.wantAdd(t, frame, api.ErrArg) // nor is it there by then
			x.wantRemove(t, frame, api.ErrNone)
			x.wantTouch(t, frame, api.ErrNone)
			x.wantPlaces(t, "a wrong frame", places...)
		}
	}
}

// One that is there stays where it is, and as it is: neither touched nor active by it.
func TestP17_1AddTwice(t *testing.T) {
	for _, at := range mixed() {
		x := put(t, mixed()...)
		x.wantAdd(t, at.frame, api.ErrTwice)
		x.wantAdd(t, at.frame, api.ErrTwice)
		x.wantPlaces(t, "Add of one that is there", mixed()...)
	}
	for _, kind := range kinds(1) {
		x := put(t, kind...)
		x.wantAdd(t, 0, api.ErrTwice)
		x.wantPlaces(t, "Add of the one that is there", kind...)
	}
}

// One that went comes as a new one, active and touched, behind all others; it can go and come again.
func TestP17_1AddAgain(t *testing.T) {
	for at, it := range mixed() {
		x := put(t, mixed()...)
		rest := slices.Delete(mixed(), at, at+1)
		for range 2 {
			x.wantRemove(t, it.frame, api.OK)
			x.wantPlaces(t, "one that went", rest...)
			x.wantAdd(t, it.frame, api.OK)
			x.wantPlaces(t, "one that came again", append(slices.Clone(rest), place{it.frame, true, true})...)
		}
	}
	x := made(t, 4)
	x.wantNext(t, 4, 4)
	x.wantRemove(t, 4, api.OK)
	x.wantAdd(t, 4, api.OK)
	x.wantPlaces(t, "one alone that came again", place{4, true, true})
}

// Wherever the hand is, one that comes is the last one that it meets, and the hand stays.
func TestP17_1AddAheadOfHand(t *testing.T) {
	for told := range 11 {
		x := made(t, 0, 1, 2, 3, 4)
		for i := range told {
			x.wantNext(t, i%5)
		}
		var order []int
		for i := range 5 {
			order = append(order, (told+i)%5)
		}
		wantAll(t, "ahead of Add", x.c, order...)
		x.wantAdd(t, 100, api.OK)
		wantAll(t, "one more", x.c, append(order, 100)...)
		x.want(t, "one more")
		x.wantAdd(t, 99, api.OK)
		wantAll(t, "two more", x.c, append(order, 100, 99)...)
		x.want(t, "two more")
	}
}

// One goes, wherever it is, and wherever the hand is: the hand stays, or goes to the next one.
func TestP17_1Remove(t *testing.T) {
	for told := range 6 {
		for frame := range 5 {
			x := made(t, 0, 1, 2, 3, 4)
			for i := range told {
				x.wantNext(t, i%5)
			}
			var order []int
			for i := range 5 {
				if at := (told + i) % 5; at != frame {
					order = append(order, at)
				}
			}
			x.wantRemove(t, frame, api.OK)
			wantAll(t, "Remove", x.c, order...)
			x.want(t, "Remove")
			if x.c.Has(frame) || x.c.Len() != 4 {
				t.Errorf("Remove(%d) did not take it out", frame)
			}
			x.wantNext(t, order...)
			x.wantNext(t, order...)
		}
	}
}

// The others stay as they are: at the hand, ahead of it, behind it, the farthest one.
func TestP17_1RemoveKeepsOthers(t *testing.T) {
	for at, it := range mixed() {
		x := put(t, mixed()...)
		x.wantRemove(t, it.frame, api.OK)
		x.wantPlaces(t, "Remove", slices.Delete(mixed(), at, at+1)...)
		x.wantRemove(t, it.frame, api.ErrNone)
		x.wantTouch(t, it.frame, api.ErrNone)
		x.wantPlaces(t, "Remove twice", slices.Delete(mixed(), at, at+1)...)
	}
}

// The one at the hand goes, till none is left.
func TestP17_1RemoveAtHand(t *testing.T) {
	x, rest := put(t, mixed()...), mixed()
	for len(rest) > 0 {
		x.wantRemove(t, rest[0].frame, api.OK)
		rest = rest[1:]
		x.wantPlaces(t, "the one at the hand went", rest...)
	}
	wantNone(t, x.c)
	y, rest := put(t, mixed()...), mixed()
	for len(rest) > 0 {
		y.wantRemove(t, rest[len(rest)-1].frame, api.OK)
		rest = rest[:len(rest)-1]
		y.wantPlaces(t, "the one ahead of the hand went", rest...)
	}
	wantNone(t, y.c)
}

// Behind the last one that there is, the next one to come is a first one.
func TestP17_1RemoveLastThereIs(t *testing.T) {
	for _, kind := range kinds(1) {
		x := put(t, kind...)
		x.wantRemove(t, 0, api.OK)
		x.want(t, "none is left")
		wantNone(t, x.c)
		x.wantRemove(t, 0, api.ErrNone)
		x.wantTouch(t, 0, api.ErrNone)
		x.wantAdd(t, -1, api.ErrArg)
		x.want(t, "none is left")
		x.wantAdd(t, 8, api.OK)
		x.wantPlaces(t, "one again", place{8, true, true})
		x.wantAdd(t, 0, api.OK)
		x.wantPlaces(t, "two again", place{8, true, true}, place{0, true, true})
		x.wantNext(t, 8, 0, 8)
	}
}

// What Remove and Touch answer of each frame, those that are there and others.
func TestP17_1RemoveAndTouchOfAll(t *testing.T) {
	for _, x := range []both{made(t), made(t, 0), made(t, math.MaxInt, 0, 13), put(t, mixed()...)} {
		for _, frame := range numbers {
			had := x.c.Has(frame)
			if e := x.holdTouch(t, frame); had != (e == api.OK) || !had && e != api.ErrNone {
				t.Errorf("Touch(%d) was to be told %d", frame, e)
			}
		}
		x.want(t, "Touch")
		for range 2 {
			for _, frame := range numbers {
				had := x.c.Has(frame)
				if e := x.holdRemove(t, frame); had != (e == api.OK) || !had && e != api.ErrNone {
					t.Errorf("Remove(%d) was to be told %d", frame, e)
				}
				x.wantLooks(t, "Remove")
			}
		}
		x.wantPlaces(t, "Remove")
	}
}

// One is touched by it, and is as active as it was, and stays where it is; the others, and the hand, stay.
func TestP17_1Touch(t *testing.T) {
	for at, it := range mixed() {
		x := put(t, mixed()...)
		places := mixed()
		places[at].touched = true
		x.wantTouch(t, it.frame, api.OK)
		x.wantPlaces(t, "Touch", places...)
		x.wantTouch(t, it.frame, api.OK)
		x.wantPlaces(t, "Touch twice", places...)
	}
}

func TestP17_1TouchOfNone(t *testing.T) {
	for _, frame := range []int{math.MinInt, -13, -1, 0, 1, 9, 16, 1<<32 + 13, math.MaxInt} {
		for _, places := range [][]place{nil, {{13, false, false}}, mixed()} {
			x := put(t, places...)
			x.wantTouch(t, frame, api.ErrNone)
			x.wantTouch(t, frame, api.ErrNone)
			x.wantPlaces(t, "Touch of one that is not there", places...)
		}
	}
}

func TestP17_2NextOfNone(t *testing.T) {
	x := made(t)
	for range 3 {
		wantNone(t, x.c)
	}
	x.want(t, "Next of no frame")
	x.wantAdd(t, 0, api.OK)
	x.wantNext(t, 0) // and true
	x.wantRemove(t, 0, api.OK)
	wantNone(t, x.c)
	x.want(t, "no frame again")
}

// One alone is told by each Next, however it is, and is neither active nor touched then.
func TestP17_2NextOfOne(t *testing.T) {
	for _, frame := range []int{0, 1, 7, 1 << 32, math.MaxInt} {
		for _, kind := range kinds(1) {
			it := place{frame, kind[0].active, kind[0].touched}
			x := put(t, it)
			for range 3 {
				x.wantNext(t, frame)
				x.wantPlaces(t, "one alone", place{frame, false, false})
			}
			x.wantTouch(t, frame, api.OK)
			x.wantPlaces(t, "one alone, touched", place{frame, false, true})
			x.wantNext(t, frame)
			x.wantPlaces(t, "one alone, touched and told", place{frame, false, false})
		}
	}
}

// What each look of the hand does: who is told is the first one that is neither; the hand is behind it, and it stays.
func TestP17_2NextOfSeveral(t *testing.T) {
	x := put(t, mixed()...)
	x.wantNext(t, 10)
	x.wantPlaces(t, "10 is told",
		place{15, true, false}, place{12, false, true}, place{14, false, false}, place{11, true, false}, place{13, true, false}, place{10, false, false})
	x.wantNext(t, 14)
	x.wantPlaces(t, "14 is told",
		place{11, true, false}, place{13, true, false}, place{10, false, false}, place{15, false, false}, place{12, true, false}, place{14, false, false})
	x.wantNext(t, 10)
	x.wantPlaces(t, "10 is told again",
		place{15, false, false}, place{12, true, false}, place{14, false, false}, place{11, false, false}, place{13, false, false}, place{10, false, false})
	x.wantNext(t, 15)
	x.wantPlaces(t, "15 is told",
		place{12, true, false}, place{14, false, false}, place{11, false, false}, place{13, false, false}, place{10, false, false}, place{15, false, false})
	x.wantNext(t, 14, 11, 13, 10, 15, 12, 14)
}

// A touched one is passed, and is touched no more, and active, whether it was that or not.
func TestP17_2TouchedIsPassed(t *testing.T) {
	for _, active := range []bool{false, true} {
		x := put(t, place{5, active, true}, place{6, false, false})
		x.wantNext(t, 6)
		x.wantPlaces(t, "a touched one was passed", place{5, true, false}, place{6, false, false})
		x.wantNext(t, 6)
		x.wantPlaces(t, "an active one was passed", place{5, false, false}, place{6, false, false})
		x.wantNext(t, 5)
		x.wantPlaces(t, "an inactive one was told", place{6, false, false}, place{5, false, false})
	}
}

// Whatever kinds four frames are of: who is told, within three rounds; a touched one only if all are touched; and how all are then.
func TestP17_2NextOfAllKinds(t *testing.T) {
	for many := 1; many <= 4; many++ {
		for _, places := range kinds(many) {
			x := put(t, places...)
			frame := x.holdNext(t)
			touched := 0
			for _, at := range places {
				if at.touched {
					touched++
				}
			}
			if places[frame].touched && touched < many {
				t.Errorf("%v: the touched one %d is told", places, frame)
			}
			its := x.p.places()
			if its[len(its)-1].frame != frame {
				t.Errorf("%v: the hand is not behind %d", places, frame)
			}
			x.want(t, "one was told")
		}
	}
}

// Where none is touched or active, they are told in a ring, again and again; a look at what is there is no touch.
func TestP17_2RoundAndRound(t *testing.T) {
	x := made(t, 4, 2, 9)
	for range 5 {
		for _, frame := range []int{4, 2, 9} {
			x.wantNext(t, frame)
			if x.c.Active() != 0 || !x.c.Has(frame) || x.c.Len() != 3 {
				t.Errorf("behind %d: %d of %d are active", frame, x.c.Active(), x.c.Len())
			}
		}
		x.want(t, "a round")
	}
}

// One that is touched ahead of each Next is never told, as long as others are not.
func TestP17_2TouchedAheadOfEach(t *testing.T) {
	for touched := range 4 {
		x := made(t, 0, 1, 2, 3)
		x.holdNext(t)
		counts := [4]int{}
		for range 30 {
			x.wantTouch(t, touched, api.OK)
			counts[x.holdNext(t)]++
			x.wantLooks(t, "one is touched ahead of each")
		}
		for frame, n := range counts {
			if frame == touched && n > 0 || frame != touched && n != 10 {
				t.Errorf("%d is touched: %d is told %d times", touched, frame, n)
			}
		}
		for range 4 {
			x.holdNext(t) // untouched, it is told in its turn
		}
		x.want(t, "one is touched no more")
	}
}

// All but one are touched ahead of each Next: that one is told each time.
func TestP17_2AllButOneTouched(t *testing.T) {
	for told := range 4 {
		x := made(t, 0, 1, 2, 3)
		x.holdNext(t)
		for range 10 {
			for frame := range 4 {
				if frame != told {
					x.wantTouch(t, frame, api.OK)
				}
			}
			x.wantNext(t, told)
			x.wantLooks(t, "all but one are touched")
		}
	}
}

// All are touched ahead of each Next: each one is told in its turn.
func TestP17_2AllTouched(t *testing.T) {
	x := made(t, 0, 1, 2, 3)
	for i := range 12 {
		for frame := range 4 {
			x.wantTouch(t, frame, api.OK)
		}
		x.wantNext(t, i%4)
		for _, at := range x.p.ring {
			if at.active || at.touched {
				t.Errorf("%d was to be neither active nor touched", at.frame)
			}
		}
		x.want(t, "all were touched")
	}
}

// One that comes while others go round is met behind all of them.
func TestP17_2AddMeanwhile(t *testing.T) {
	x := made(t, 0, 1, 2)
	x.wantNext(t, 0)
	x.wantAdd(t, 7, api.OK)
	x.wantPlaces(t, "one came", place{1, false, false}, place{2, false, false}, place{0, false, false}, place{7, true, true})
	x.wantNext(t, 1, 2, 0)
	x.wantPlaces(t, "all others were told", place{7, true, true}, place{1, false, false}, place{2, false, false}, place{0, false, false})
	x.wantNext(t, 1)
	x.wantPlaces(t, "it was passed", place{2, false, false}, place{0, false, false}, place{7, true, false}, place{1, false, false})
	x.wantAdd(t, 8, api.OK)
	x.wantNext(t, 2, 0, 1, 2, 0)
	x.wantPlaces(t, "it was passed twice, another one once", place{7, false, false}, place{1, false, false}, place{8, true, false}, place{2, false, false}, place{0, false, false})
	x.wantNext(t, 7, 1, 2, 0, 7, 1, 8)
}

// One goes while others go round: it is told no more, and nobody is passed over for it.
func TestP17_2RemoveMeanwhile(t *testing.T) {
	x := made(t, 0, 1, 2, 3, 4)
	x.wantNext(t, 0, 1)
	x.wantRemove(t, 2, api.OK) // at the hand
	x.wantNext(t, 3)
	x.wantRemove(t, 3, api.OK) // just told
	x.wantNext(t, 4)
	x.wantRemove(t, 1, api.OK) // the next but one
	x.wantNext(t, 0, 4, 0)
	x.wantRemove(t, 4, api.OK)
	x.wantNext(t, 0, 0)
	x.wantPlaces(t, "one is left", place{0, false, false})
}

// A clock whose frames come and go all the while goes on as it began.
func TestP17_2ComeAndGo(t *testing.T) {
	x := made(t, 0, 1, 2, 3)
	for i := range 3000 {
		frame := x.holdNext(t)
		x.wantRemove(t, frame, api.OK)
		x.wantAdd(t, i+4, api.OK)
		if x.c.Len() != 4 || x.c.Has(frame) || !x.c.Has(i+4) {
			t.Fatalf("%d for %d: %d frames", i+4, frame, x.c.Len())
		}
	}
	x.want(t, "frames came and went")
}

// As many frames as a machine has, and more, each one told in its turn.
func TestP17_2ManyFrames(t *testing.T) {
	for _, many := range []int{128, 1024, 5000} {
		x := both{clock.New(), &plain{}}
		for i := range many {
			x.wantAdd(t, many-i, api.OK)
		}
		for range 3 {
			for i := range many {
				x.wantNext(t, many-i)
			}
		}
		x.wantLooks(t, "many frames")
		for frame := 1; frame <= many; frame += 2 {
			x.wantRemove(t, frame, api.OK)
		}
		x.wantLooks(t, "half as many frames")
		for i := range many / 2 {
			x.wantNext(t, many-i*2)
		}
	}
}

// Whatever is called, in whatever order, a clock is as a plain ring is.
func TestP17_2ManyCalls(t *testing.T) {
	c := chance(17)
	counts := map[api.Errno]int{}
	told := map[int]int{}
	for _, frames := range []int{1, 2, 3, 6, 12, 40} {
		for _, nexts := range []int{1, 4, 12} { // of as many and ten calls
			x := made(t)
			for i := range 1500 {
				frame := c.below(frames+2) - 1
				switch kind := c.below(nexts + 10); {
				case kind < 4:
					counts[x.holdAdd(t, frame)]++
				case kind < 6:
					counts[x.holdRemove(t, frame)]++
				case kind < 10:
					counts[x.holdTouch(t, frame)]++
				default:
					told[x.holdNext(t)]++
				}
				x.wantLooks(t, "many calls")
				if i%100 == 0 {
					x.want(t, "many calls")
				}
			}
			x.want(t, "many calls")
		}
	}
	for _, e := range []api.Errno{api.OK, api.ErrArg, api.ErrNone, api.ErrTwice} {
		if counts[e] < 100 {
			t.Errorf("the error %d was to be told only %d times", e, counts[e])
		}
	}
	if len(told) != 41 {
		t.Errorf("%d frames were told", len(told))
	}
}

// Len, Active and Has behind each call.
func TestP17_3LenActiveHas(t *testing.T) {
	c := clock.New()
	want := func(what string, many, active int, there ...int) {
		t.Helper()
		if n, its := c.Len(), c.Active(); n != many || its != active {
			t.Errorf("%s: %d of %d are active, not %d of %d", what, its, n, active, many)
		}
		for _, frame := range numbers {
			if had := c.Has(frame); had != slices.Contains(there, frame) {
				t.Errorf("%s: Has(%d): %t", what, frame, had)
			}
		}
	}
	want("New", 0, 0)
	c.Next()
	want("Next of none", 0, 0)
	c.Add(2)
	want("Add", 1, 1, 2)
	c.Add(0)
	want("Add", 2, 2, 0, 2)
	c.Add(2)
	c.Add(-1)
	want("Add that is refused", 2, 2, 0, 2)
	c.Add(math.MaxInt)
	want("Add", 3, 3, 0, 2, math.MaxInt)
	c.Next() // 2
	want("Next", 3, 0, 0, 2, math.MaxInt)
	c.Touch(0)
	c.Touch(9)
	want("Touch", 3, 0, 0, 2, math.MaxInt)
	c.Next() // passes 0, tells the greatest one
	want("Next behind Touch", 3, 1, 0, 2, math.MaxInt)
	c.Remove(2)
	c.Remove(2)
	want("Remove of an inactive one", 2, 1, 0, math.MaxInt)
	c.Add(5)
	want("Add", 3, 2, 0, 5, math.MaxInt)
	c.Remove(0)
	want("Remove of an active one", 2, 1, 5, math.MaxInt)
	c.Remove(5)
	c.Remove(math.MaxInt)
	want("Remove of all", 0, 0)
}

func TestP17_3All(t *testing.T) {
	wantAll(t, "none", clock.New())
	wantAll(t, "one", made(t, 5).c, 5)
	wantAll(t, "as they came, not rising", made(t, 5, 1, 9, 0, math.MaxInt).c, 5, 1, 9, 0, math.MaxInt)
	wantAll(t, "whatever they are", put(t, mixed()...).c, 13, 10, 15, 12, 14, 11)
	x := made(t, 5, 1, 9)
	for _, order := range [][]int{{1, 9, 5}, {9, 5, 1}, {5, 1, 9}, {1, 9, 5}} {
		x.holdNext(t)
		wantAll(t, "from the hand on", x.c, order...)
	}
	x.wantTouch(t, 1, api.OK)
	wantAll(t, "Touch", x.c, 1, 9, 5)
	x.wantAdd(t, 7, api.OK)
	wantAll(t, "Add", x.c, 1, 9, 5, 7)
	x.wantNext(t, 9)
	wantAll(t, "one was passed", x.c, 5, 7, 1, 9)
	x.wantRemove(t, 5, api.OK)
	wantAll(t, "Remove", x.c, 7, 1, 9)
}

// One All may be ranged over again and again: each time it tells what is there then, from where the hand is then.
func TestP17_3AllTwice(t *testing.T) {
	x := made(t)
	all := x.c.All()
	want := func(what string, frames ...int) {
		t.Helper()
		for range 2 {
			if got := collect(all); !slices.Equal(got, frames) {
				t.Errorf("%s: %v, not %v", what, got, frames)
			}
		}
	}
	want("none")
	x.wantAdd(t, 3, api.OK)
	want("one", 3)
	x.wantAdd(t, 1, api.OK)
	x.wantAdd(t, 2, api.OK)
	want("three", 3, 1, 2)
	x.wantNext(t, 3)
	want("behind a Next", 1, 2, 3)
	x.wantRemove(t, 2, api.OK)
	want("Remove", 1, 3)
	x.wantRemove(t, 1, api.OK)
	x.wantRemove(t, 3, api.OK)
	want("none again")
}

func TestP17_3AllBrokenOff(t *testing.T) {
	x := put(t, mixed()...)
	want := []int{13, 10, 15, 12, 14, 11}
	all := x.c.All()
	for many := 1; many <= len(want); many++ {
		var got []int
		all(func(frame int) bool {
			got = append(got, frame)
			return len(got) < many
		})
		if !slices.Equal(got, want[:many]) {
			t.Errorf("broken off behind %d: %v", many, got)
		}
	}
	n := 0
	for frame := range all {
		n++
		if frame != 13 {
			t.Errorf("the first one: %d", frame)
		}
		break
	}
	if n != 1 {
		t.Errorf("%d told", n)
	}
	if got := collect(all); !slices.Equal(got, want) {
		t.Errorf("told again: %v", got)
	}
	x.wantPlaces(t, "broken off", mixed()...)
}

// Whoever is told a frame may turn the clock: those that are gone by their turn are not told, and it is once round.
func TestP17_3AllChangedMeanwhile(t *testing.T) {
	for _, c := range []struct {
		what   string
		change func(x both)
		want   []int
	}{
		{"nothing", func(x both) {}, []int{13, 10, 15, 12, 14, 11}},
		{"the hand goes on", func(x both) { x.wantNext(t, 10, 14) }, []int{13, 10, 15, 12, 14, 11}},
		{"one is touched", func(x both) { x.wantTouch(t, 10, api.OK) }, []int{13, 10, 15, 12, 14, 11}},
		{"the told one goes", func(x both) { x.wantRemove(t, 13, api.OK) }, []int{13, 10, 15, 12, 14, 11}},
		{"the next one goes", func(x both) { x.wantRemove(t, 10, api.OK) }, []int{13, 15, 12, 14, 11}},
		{"the last one goes", func(x both) { x.wantRemove(t, 11, api.OK) }, []int{13, 10, 15, 12, 14}},
		{"all go", func(x both) {
			for _, at := range mixed() {
				x.wantRemove(t, at.frame, api.OK)
			}
		}, []int{13}},
		{"one comes", func(x both) { x.wantAdd(t, 7, api.OK) }, []int{13, 10, 15, 12, 14, 11}},
		{"the hand goes on, one goes, one comes", func(x both) {
			x.wantNext(t, 10)
			x.wantRemove(t, 14, api.OK)
			x.wantAdd(t, 7, api.OK)
		}, []int{13, 10, 15, 12, 11}},
	} {
		x := put(t, mixed()...)
		var got []int
		for frame := range x.c.All() {
			if len(got) == 0 {
				c.change(x)
			}
			got = append(got, frame)
		}
		if !slices.Equal(got, c.want) {
			t.Errorf("%s: %v, not %v", c.what, got, c.want)
		}
		x.want(t, c.what)
	}
}

// Each one that is told goes, or lets one more come, or the hand go on: the telling ends.
func TestP17_3AllEnds(t *testing.T) {
	x := made(t, 0, 1, 2, 3, 4)
	var got []int
	for frame := range x.c.All() {
		got = append(got, frame)
		x.wantAdd(t, 10+frame, api.OK)
		x.holdNext(t)
	}
	if !slices.Equal(got, []int{0, 1, 2, 3, 4}) {
		t.Errorf("one more comes at each: %v", got)
	}
	x.want(t, "one more came at each")
	n := 0
	for frame := range x.c.All() {
		n++
		x.wantRemove(t, frame, api.OK)
	}
	if n != 10 {
		t.Errorf("%d were told", n)
	}
	x.wantPlaces(t, "each one went")
}

// An All within an All, and an Active, tell what is there then.
func TestP17_3AllWithinAll(t *testing.T) {
	x := put(t, mixed()...)
	n := 0
	for frame := range x.c.All() {
		x.wantLooks(t, "within")
		for its := range x.c.All() {
			if its == frame {
				x.wantRemove(t, its, api.OK)
			}
		}
		n++
		x.wantLooks(t, "one went within")
	}
	if n != 6 || x.c.Len() != 0 || x.c.Active() != 0 {
		t.Errorf("%d told, %d left", n, x.c.Len())
	}
}

// A copy goes its own way, and so does what was copied: the hand, what is touched and active, who comes and goes.
func TestP17_3Copy(t *testing.T) {
	x := put(t, mixed()...)
	y := x.copied(t)
	y.wantPlaces(t, "a copy", mixed()...)
	x.wantNext(t, 10, 14)
	x.wantTouch(t, 10, api.OK)
	x.wantRemove(t, 12, api.OK)
	x.wantAdd(t, 7, api.OK)
	y.wantPlaces(t, "the copy, behind changes of the first one", mixed()...)
	its := x.p.places()
	y.wantNext(t, 10)
	y.wantTouch(t, 14, api.OK)
	y.wantRemove(t, 13, api.OK)
	y.wantAdd(t, 8, api.OK)
	y.wantAdd(t, 12, api.ErrTwice)
	y.wantNext(t, 10)
	x.wantPlaces(t, "the first one, behind changes of the copy", its...)
	its = y.p.places()
	z := y.copied(t)
	for _, at := range its {
		y.wantRemove(t, at.frame, api.OK)
	}
	z.wantPlaces(t, "a copy's copy", its...)
	y.wantPlaces(t, "the copy, behind all went")
	z.wantAdd(t, 13, api.OK)
	y.wantPlaces(t, "the copy, behind changes of its copy")
	x.want(t, "the first one")
}

// Of each kind of frames: touches, the hand's turns, what comes and goes, of one of both, are not the other one's.
func TestP17_3CopyOfAllKinds(t *testing.T) {
	changes := []func(x both){
		func(x both) { x.holdNext(t) },
		func(x both) { x.wantTouch(t, 1, api.OK) },
		func(x both) { x.wantRemove(t, 0, api.OK) },
		func(x both) { x.wantRemove(t, 1, api.OK) },
		func(x both) { x.wantAdd(t, 5, api.OK) },
		func(x both) { x.wantAdd(t, 5, api.OK); x.holdNext(t); x.holdNext(t) },
	}
	for _, places := range kinds(2) {
		for _, change := range changes {
			x := put(t, places...)
			y := x.copied(t)
			change(x)
			y.wantPlaces(t, "a copy", places...)
			x.want(t, "what was changed")
			x = put(t, places...)
			y = x.copied(t)
			change(y)
			x.wantPlaces(t, "what was copied", places...)
			y.want(t, "a copy that was changed")
		}
	}
}

// A copy of one that has no frame is there.
func TestP17_3CopyOfNone(t *testing.T) {
	x, gone := made(t), made(t, 4)
	gone.wantNext(t, 4)
	gone.wantRemove(t, 4, api.OK)
	for _, x := range []both{x, gone} {
		for _, y := range []both{x.copied(t), x.copied(t).copied(t)} {
			y.want(t, "a copy of none")
			wantNone(t, y.c)
			y.wantAdd(t, 3, api.OK)
			y.wantNext(t, 3)
			y.want(t, "a copy of none, and one")
			x.want(t, "none")
		}
		x.wantAdd(t, 9, api.OK)
		x.want(t, "one")
	}
}

// Both grow on: neither writes into what the other one has.
func TestP17_3CopyGrows(t *testing.T) {
	x := made(t, 0, 1, 2)
	for i := range 40 {
		y := x.copied(t)
		x.wantAdd(t, 10+i, api.OK)
		y.wantAdd(t, 100+i, api.OK)
		x.holdNext(t)
		y.wantAdd(t, 200+i, api.OK)
		x.wantLooks(t, "what was copied")
		y.wantLooks(t, "a copy")
		y.holdNext(t)
		x.wantLooks(t, "what was copied")
		y.wantLooks(t, "a copy")
	}
	x.want(t, "what was copied again and again")
}

// What is looked at is not changed by it.
func TestP17_3LooksChangeNothing(t *testing.T) {
	for _, places := range [][]place{nil, {{3, false, false}}, mixed()} {
		x := put(t, places...)
		for range 3 {
			for _, frame := range numbers {
				x.c.Has(frame)
			}
			x.c.Len()
			x.c.Active()
			x.c.Copy()
			for range x.c.All() {
				break
			}
			for range x.c.All() {
			}
		}
		x.wantPlaces(t, "looks", places...)
	}
}

func TestNotThere(t *testing.T) {
	for _, c := range []*clock.Clock{nil, {}, new(clock.Clock)} {
		for range 2 {
			for _, frame := range numbers {
				for what, e := range map[string]api.Errno{"Add": c.Add(frame), "Remove": c.Remove(frame), "Touch": c.Touch(frame)} {
					if e != api.ErrNil {
						t.Errorf("%s(%d): error %d", what, frame, e)
					}
				}
				if c.Has(frame) {
					t.Errorf("Has(%d)", frame)
				}
			}
			wantNone(t, c)
			if c.Len() != 0 || c.Active() != 0 {
				t.Errorf("%d of %d are active", c.Active(), c.Len())
			}
			wantAll(t, "not there", c)
			for range c.All() {
				t.Error("All tells")
			}
			if c.Copy() != nil {
				t.Error("Copy of what is not there")
			}
		}
	}
}
