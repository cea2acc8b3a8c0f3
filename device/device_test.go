package device_test

import (
	"bytes"
	"math"
	"slices"
	"testing"

	"byre/api"
	"byre/device"
)

// far are numbers that are no slot's, whatever the device.
var far = []int{math.MinInt, math.MinInt + 1, -1 << 32, -1024, -2, -1, api.MaxSlots, api.MaxSlots + 1, 1 << 32, 1 << 56, 1<<56 + 1, math.MaxInt - 1, math.MaxInt}

// wrongLengths are how many bytes no slot has.
var wrongLengths = []int{0, 1, 128, 255, 257, 258, 511, 512, 65536}

// want holds an error against the one that is to be told.
func want(t *testing.T, what string, got, want api.Errno) {
	t.Helper()
	if got != want {
		t.Errorf("%s: error %d, not %d", what, got, want)
	}
}

// pattern are bytes that are hardly another slot's, nor of another round.
func pattern(slot, round int) []byte {
	b := make([]byte, api.FrameSize)
	for i := range b {
		b[i] = byte(i*i + 7*slot + 101*round + 1)
	}
	b[0], b[1], b[254], b[255] = byte(slot), byte(slot>>8), byte(round), byte(slot)^0x5A
	return b
}

// alike are 256 bytes that are alike.
func alike(c byte) []byte {
	return bytes.Repeat([]byte{c}, api.FrameSize)
}

// wantBytes holds a slot against the bytes that it is to have.
func wantBytes(t *testing.T, what string, d *device.Device, slot int, want []byte) {
	t.Helper()
	if got, e := d.Read(slot, false); e != api.OK || !bytes.Equal(got, want) {
		t.Errorf("%s: the slot %d has %v, error %d; not %v", what, slot, got, e, want)
	}
}

// wantNoBytes holds what Read answers against the error that it is to tell.
func wantNoBytes(t *testing.T, d *device.Device, slot int, fail bool, want api.Errno) {
	t.Helper()
	if b, e := d.Read(slot, fail); len(b) != 0 || e != want {
		t.Errorf("Read(%d, %t): %v, error %d; not error %d", slot, fail, b, e, want)
	}
}

// wantSlots holds how many slots there are against how many there are to be.
func wantSlots(t *testing.T, what string, d *device.Device, want int) {
	t.Helper()
	if d == nil {
		t.Fatalf("%s: no device", what)
	}
	if got := d.Slots(); got != want {
		t.Errorf("%s: %d slots, not %d", what, got, want)
	}
}

// filled is a device each of whose slots has its own bytes.
func filled(t *testing.T, slots int) *device.Device {
	t.Helper()
	d := device.New(slots)
	wantSlots(t, "New", d, slots)
	for slot := range slots {
		want(t, "Write", d.Write(slot, pattern(slot, 0), false), api.OK)
	}
	return d
}

// wantFilled holds each slot of a filled device against its bytes, but for those in changed.
func wantFilled(t *testing.T, what string, d *device.Device, changed ...int) {
	t.Helper()
	for slot := range d.Slots() {
		if !slices.Contains(changed, slot) {
			wantBytes(t, what, d, slot, pattern(slot, 0))
		}
	}
}

// wrongSlots are numbers that are none of the device's slots.
func wrongSlots(d *device.Device) []int {
	return append([]int{d.Slots(), d.Slots() + 1, d.Slots() + 256}, far...)
}

// wantRefused holds Write and Read of a slot against an error, whatever else is wrong with them.
func wantRefused(t *testing.T, d *device.Device, slot int, err api.Errno) {
	t.Helper()
	for _, fail := range []bool{false, true} {
		want(t, "Write of nil", d.Write(slot, nil, fail), err)
		want(t, "Write of 256 bytes", d.Write(slot, alike(9), fail), err)
		for _, many := range wrongLengths {
			want(t, "Write of other lengths", d.Write(slot, make([]byte, many), fail), err)
		}
		wantNoBytes(t, d, slot, fail, err)
	}
}

func TestP4_1New(t *testing.T) {
	for _, x := range []struct{ slots, many int }{
		{math.MinInt, 0}, {math.MinInt + 1, 0}, {-1024, 0}, {-2, 0}, {-1, 0},
		{0, 0}, {1, 1}, {2, 2}, {255, 255}, {256, 256}, {1000, 1000}, {1023, 1023}, {1024, 1024},
		{1025, 1024}, {1026, 1024}, {2048, 1024}, {1 << 32, 1024}, {1<<32 + 1, 1024}, {math.MaxInt - 1, 1024}, {math.MaxInt, 1024},
	} {
		d := device.New(x.slots)
		wantSlots(t, "New", d, x.many)
		for slot := range x.many {
			wantBytes(t, "a new device", d, slot, make([]byte, api.FrameSize))
		}
		for _, slot := range wrongSlots(d) {
			wantRefused(t, d, slot, api.ErrArg)
		}
	}
}

// A device of no slots is there all the same: it is not a zero one.
func TestP4_1NoSlots(t *testing.T) {
	for _, slots := range []int{0, -1, math.MinInt} {
		d := device.New(slots)
		for _, which := range []*device.Device{d, d.Copy(), d.Copy().Copy()} {
			wantSlots(t, "no slots", which, 0)
			for _, slot := range append([]int{0, 1}, far...) {
				wantRefused(t, which, slot, api.ErrArg)
			}
		}
		if d.Copy() == d {
			t.Error("Copy is the device itself")
		}
	}
}

func TestP4_1TwoDevices(t *testing.T) {
	a, b := filled(t, 3), device.New(3)
	wantBytes(t, "another device", b, 1, make([]byte, api.FrameSize))
	want(t, "Write", b.Write(2, alike(5), false), api.OK)
	wantFilled(t, "Write to another device", a)
}

func TestP4_1Copy(t *testing.T) {
	for _, slots := range []int{1, 2, 5, api.MaxSlots} {
		d := filled(t, slots)
		c := d.Copy()
		wantSlots(t, "Copy", c, slots)
		wantFilled(t, "Copy", c)
		wantFilled(t, "what was copied", d)
		for _, slot := range wrongSlots(c) {
			wantRefused(t, c, slot, api.ErrArg)
		}
	}
}

func TestP4_1CopyOfNoughts(t *testing.T) {
	c := device.New(2).Copy()
	wantSlots(t, "Copy", c, 2)
	for slot := range 2 {
		wantBytes(t, "Copy", c, slot, make([]byte, api.FrameSize))
		want(t, "Write", c.Write(slot, pattern(slot, 0), false), api.OK)
	}
	wantFilled(t, "Write", c)
}

func TestP4_1CopyGoesItsOwnWay(t *testing.T) {
	const last = 6
	for _, slot := range []int{0, 3, last} {
		d := filled(t, last+1)
		c := d.Copy()
		want(t, "Write to the copy", c.Write(slot, alike(1), false), api.OK)
		wantFilled(t, "Write to the copy", d)
		wantFilled(t, "Write to the copy", c, slot)
		want(t, "Write", d.Write(slot, alike(2), false), api.OK)
		wantBytes(t, "Write", d, slot, alike(2))
		wantBytes(t, "Write to what was copied", c, slot, alike(1))
		e := c.Copy()
		want(t, "Write", c.Write(slot, alike(3), false), api.OK)
		wantBytes(t, "Write to what was copied", e, slot, alike(1))
		wantBytes(t, "Write to the copy", d, slot, alike(2))
		wantFilled(t, "a copy's copy", e, slot)
	}
}

func TestP4_2Examples(t *testing.T) {
	d := device.New(2)
	want(t, "Write(1, 7..)", d.Write(1, alike(7), false), api.OK)
	wantBytes(t, "Write(1, 7..)", d, 1, alike(7))
	want(t, "Write(1, 8.., failing)", d.Write(1, alike(8), true), api.ErrIO)
	wantBytes(t, "Write(1, 8.., failing)", d, 1, alike(7))
	wantNoBytes(t, d, 2, false, api.ErrArg)
	wantBytes(t, "a slot that was not written to", d, 0, make([]byte, api.FrameSize))
}

// edges are the first and the last slots of a device of so many, and those where numbers of one byte end.
func edges(slots int) []int {
	all := []int{0, 1, 127, 128, 255, 256, slots - 2, slots - 1}
	all = slices.DeleteFunc(all, func(slot int) bool { return slot < 0 || slot >= slots })
	slices.Sort(all)
	return slices.Compact(all)
}

func TestP4_2WriteOneSlot(t *testing.T) {
	for _, slots := range []int{1, 2, 3, 300, api.MaxSlots} {
		d := filled(t, slots)
		wantFilled(t, "all slots", d)
		for _, slot := range edges(slots) {
			for round := range 3 {
				want(t, "Write", d.Write(slot, pattern(slot, round+1), false), api.OK)
				wantBytes(t, "Write", d, slot, pattern(slot, round+1))
			}
		}
		wantFilled(t, "Write to other slots", d, edges(slots)...)
		for _, slot := range edges(slots) {
			wantBytes(t, "Write to other slots", d, slot, pattern(slot, 3))
		}
	}
}

func TestP4_2WriteOfNoughts(t *testing.T) {
	d := filled(t, 3)
	want(t, "Write", d.Write(1, make([]byte, api.FrameSize), false), api.OK)
	wantBytes(t, "Write", d, 1, make([]byte, api.FrameSize))
	wantFilled(t, "Write to another slot", d, 1)
}

func TestP4_2Lengths(t *testing.T) {
	for _, slots := range []int{1, 4, api.MaxSlots} {
		d := filled(t, slots)
		for _, slot := range edges(slots) {
			for _, fail := range []bool{false, true} {
				want(t, "Write of nil", d.Write(slot, nil, fail), api.ErrArg)
				for _, many := range wrongLengths {
					want(t, "Write", d.Write(slot, bytes.Repeat([]byte{77}, many), fail), api.ErrArg)
					// Room behind the bytes does not count.
					want(t, "Write of a part", d.Write(slot, make([]byte, 1<<17)[:many], fail), api.ErrArg)
				}
			}
		}
		wantFilled(t, "what was refused", d)
	}
	d := device.New(1)
	want(t, "Write of a part of 256 bytes", d.Write(0, slices.Concat(alike(1), alike(2), alike(3))[200:456], false), api.OK)
	wantBytes(t, "Write of a part of 256 bytes", d, 0, slices.Concat(alike(1)[:56], alike(2)[:200]))
}

func TestP4_2NoSuchSlot(t *testing.T) {
	for _, slots := range []int{1, 2, 1023, api.MaxSlots} {
		d := filled(t, slots)
		for _, slot := range wrongSlots(d) {
			wantRefused(t, d, slot, api.ErrArg)
		}
		wantFilled(t, "what was refused", d)
	}
}

func TestP4_2Failing(t *testing.T) {
	for _, slots := range []int{1, 4, api.MaxSlots} {
		d := filled(t, slots)
		for _, slot := range edges(slots) {
			want(t, "Write, failing", d.Write(slot, alike(3), true), api.ErrIO)
			wantNoBytes(t, d, slot, true, api.ErrIO)
			want(t, "Write, failing", d.Write(slot, make([]byte, api.FrameSize), true), api.ErrIO)
		}
		wantFilled(t, "what failed", d)
	}
	d := device.New(2)
	want(t, "Write, failing", d.Write(0, alike(3), true), api.ErrIO)
	wantNoBytes(t, d, 0, true, api.ErrIO)
	wantBytes(t, "what failed", d, 0, make([]byte, api.FrameSize))
}

// What was written last is read, whatever failed in between.
func TestP4_2WrittenLast(t *testing.T) {
	const slots = 5
	d := device.New(slots)
	var last [slots][]byte
	for slot := range slots {
		last[slot] = make([]byte, api.FrameSize)
	}
	for round := range 200 {
		slot := round * 3 % slots
		switch round * round % 7 {
		case 0, 1:
			want(t, "Write", d.Write(slot, pattern(slot, round), false), api.OK)
			last[slot] = pattern(slot, round)
		case 2:
			want(t, "Write, failing", d.Write(slot, pattern(slot, round), true), api.ErrIO)
			wantNoBytes(t, d, slot, true, api.ErrIO)
		default:
			want(t, "Write of 255 bytes", d.Write(slot, pattern(slot, round)[1:], false), api.ErrArg)
			want(t, "Write to no slot", d.Write(slots, pattern(slot, round), false), api.ErrArg)
			wantNoBytes(t, d, -1, false, api.ErrArg)
		}
		for slot := range slots {
			wantBytes(t, "what was written last", d, slot, last[slot])
		}
	}
}

func TestP4_2WriteKeepsNothing(t *testing.T) {
	d := device.New(2)
	b := make([]byte, api.FrameSize, 2*api.FrameSize)
	copy(b, pattern(0, 0))
	copy(b[:cap(b)][api.FrameSize:], alike(44))
	want(t, "Write", d.Write(0, b, false), api.OK)
	want(t, "Write, failing", d.Write(1, b, true), api.ErrIO)
	if !bytes.Equal(b, pattern(0, 0)) || !bytes.Equal(b[:cap(b)][api.FrameSize:], alike(44)) {
		t.Errorf("Write changes what is handed in: %v", b[:cap(b)])
	}
	clear(b)
	wantBytes(t, "what was handed in was written over", d, 0, pattern(0, 0))
	wantBytes(t, "what was handed in was written over", d, 1, make([]byte, api.FrameSize))
	want(t, "Write", d.Write(0, alike(6), false), api.OK)
	if !bytes.Equal(b, make([]byte, api.FrameSize)) {
		t.Errorf("a later Write reaches what was handed in: %v", b)
	}
}

// One list of bytes may be handed in for several slots.
func TestP4_2SameBytes(t *testing.T) {
	d, b := device.New(2), pattern(4, 4)
	want(t, "Write", d.Write(0, b, false), api.OK)
	want(t, "Write", d.Write(1, b, false), api.OK)
	want(t, "Write", d.Write(0, alike(8), false), api.OK)
	wantBytes(t, "Write to another slot", d, 1, pattern(4, 4))
}

func TestP4_2ReadIsACopy(t *testing.T) {
	d := filled(t, 3)
	for _, slot := range []int{0, 1, 2} {
		b, e := d.Read(slot, false)
		want(t, "Read", e, api.OK)
		other, e := d.Read(slot, false)
		want(t, "Read", e, api.OK)
		clear(b[:cap(b)])
		clear(append(b, 1, 2, 3))
		wantFilled(t, "what Read answered was written over", d)
		if !bytes.Equal(other, pattern(slot, 0)) {
			t.Error("two answers of Read share their bytes")
		}
		want(t, "Write", d.Write(slot, other, false), api.OK)
		want(t, "Write", d.Write(slot, alike(5), false), api.OK)
		if !bytes.Equal(other, pattern(slot, 0)) {
			t.Error("what Read answered changes with the slot")
		}
		want(t, "Write", d.Write(slot, other, false), api.OK)
	}
	wantFilled(t, "what Read answered was written", d)
}

// What one of a device and its copy tells does not change with the other one.
func TestP4_2CopyReadIsACopy(t *testing.T) {
	d := filled(t, 2)
	c := d.Copy()
	b, e := c.Read(1, false)
	want(t, "Read", e, api.OK)
	clear(b[:cap(b)])
	wantFilled(t, "what the copy told was written over", d)
	wantFilled(t, "what the copy told was written over", c)
}

func TestP4_NotThere(t *testing.T) {
	for _, d := range []*device.Device{nil, {}, new(device.Device)} {
		if got := d.Slots(); got != 0 {
			t.Errorf("Slots: %d", got)
		}
		if c := d.Copy(); c != nil {
			t.Errorf("Copy: %v", c)
		}
		for _, slot := range append([]int{0, 1, 255, 1023}, far...) {
			wantRefused(t, d, slot, api.ErrNil)
		}
		if got := d.Slots(); got != 0 {
			t.Errorf("Slots behind writes: %d", got)
		}
	}
}
