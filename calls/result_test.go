package calls_test

import (
	"bytes"
	"encoding/binary"
	"math"
	"slices"
	"testing"

	"byre/api"
	"byre/calls"
)

// errnos are numbers of errors, 0 to 999 and others.
var errnos = []api.Errno{
	math.MinInt, math.MinInt + 1, -1 << 32, 1 - 1<<32, -1000, -999, -256, -2, -1,
	0, 1, 2, 6, 7, 9, 40, 190, 220, 255, 256, 257, 511, 512, 998, 999,
	1000, 1001, 1023, 1024, 1 << 16, 1 << 32, 1<<32 + 1, 1<<32 + 999, 1 << 62, math.MaxInt - 1, math.MaxInt,
}

// values are a result's values.
var values = []uint64{0, 1, 2, 255, 256, 98369, 1 << 32, 0x0102030405060708, math.MaxInt, 1 << 63, math.MaxUint64 - 1, math.MaxUint64}

// lists are bytes of a result: none, and more than may be, too.
func lists() [][]byte {
	return [][]byte{nil, {}, {0}, {7}, {0, 0}, some(7), some(8), make([]byte, 8), some(9), make([]byte, 9), make([]byte, 16), some(255), some(256), some(264), some(65536)}
}

// results are results of all of those, such that may be and others.
func results() []api.Result {
	var l []api.Result
	for _, errno := range errnos {
		for _, value := range values {
			for _, b := range lists() {
				l = append(l, api.Result{Errno: errno, Value: value, Bytes: b})
			}
		}
	}
	return l
}

// resultMay tells whether there may be the result.
func resultMay(r api.Result) bool {
	if r.Errno == 0 {
		return len(r.Bytes) < 9
	}
	return r.Errno > 0 && r.Errno < 1000 && r.Value == 0 && len(r.Bytes) == 0
}

// resultForm is the result's form.
func resultForm(r api.Result) []byte {
	return append(numbers(uint64(r.Errno), r.Value, uint64(len(r.Bytes))), r.Bytes...)
}

// plainReadResult is what ReadResult is to answer.
func plainReadResult(b []byte) (api.Result, bool) {
	if len(b) < 24 || len(b) > 32 {
		return api.Result{}, false
	}
	errno, value, many := binary.LittleEndian.Uint64(b), binary.LittleEndian.Uint64(b[8:]), binary.LittleEndian.Uint64(b[16:])
	if errno > 999 || many != uint64(len(b)-24) || errno > 0 && (value > 0 || many > 0) {
		return api.Result{}, false
	}
	return api.Result{Errno: api.Errno(errno), Value: value, Bytes: bytes.Clone(b[24:])}, true
}

// alikeResults tells whether two results are, without asking SameResult.
func alikeResults(a, b api.Result) bool {
	return a.Errno == b.Errno && a.Value == b.Value && string(a.Bytes) == string(b.Bytes)
}

// wantResult holds what MayResult and ResultBytes answer against a form, and what ReadResult answers of the form against the result.
func wantResult(t *testing.T, r api.Result, want []byte) {
	t.Helper()
	if !calls.MayResult(r) {
		t.Errorf("MayResult(%+v): false", r)
	}
	if got, e := calls.ResultBytes(r); e != api.OK || !bytes.Equal(got, want) {
		t.Errorf("ResultBytes(%+v): %x, error %d; not %x", r, got, e, want)
	}
	if got, e := calls.ReadResult(want); e != api.OK || !alikeResults(got, r) {
		t.Errorf("ReadResult(%x): %+v, error %d; not %+v", want, got, e, r)
	}
}

// wantNoResult holds what MayResult and ResultBytes answer of a result that may not be.
func wantNoResult(t *testing.T, r api.Result) {
	t.Helper()
	if calls.MayResult(r) {
		t.Errorf("MayResult of %d, %d, %d bytes: true", r.Errno, r.Value, len(r.Bytes))
	}
	if got, e := calls.ResultBytes(r); e != api.ErrArg || len(got) != 0 {
		t.Errorf("ResultBytes of %d, %d, %d bytes: %x, error %d; not error %d", r.Errno, r.Value, len(r.Bytes), got, e, api.ErrArg)
	}
}

// wantNoReadResult holds what ReadResult answers of what is no form against what it is to answer.
func wantNoReadResult(t *testing.T, b []byte) {
	t.Helper()
	if got, e := calls.ReadResult(b); e != api.ErrForm || !alikeResults(got, api.Result{}) {
		t.Errorf("ReadResult(%x): %+v, error %d; not error %d", b, got, e, api.ErrForm)
	}
}

// wantPlainResult holds what ReadResult answers against what plainReadResult does.
func wantPlainResult(t *testing.T, b []byte) {
	t.Helper()
	if r, ok := plainReadResult(b); ok {
		wantResult(t, r, b)
		return
	}
	wantNoReadResult(t, b)
}

// wantSameResult holds what SameResult answers, both ways round, against what it is to answer.
func wantSameResult(t *testing.T, a, b api.Result, want bool) {
	t.Helper()
	if there, back := calls.SameResult(a, b), calls.SameResult(b, a); there != want || back != want {
		t.Errorf("SameResult of %+v and %+v: %t, %t", a, b, there, back)
	}
}

// Results' forms, byte by byte.
func TestP19_3FormsByHand(t *testing.T) {
	for _, x := range []struct {
		r    api.Result
		want string
	}{
		{api.Result{}, "0000000000000000 0000000000000000 0000000000000000"},
		{api.Result{Value: 3}, "0000000000000000 0300000000000000 0000000000000000"},
		{api.Result{Errno: api.ErrNone}, "0700000000000000 0000000000000000 0000000000000000"},
		{api.Result{Errno: 999}, "e703000000000000 0000000000000000 0000000000000000"},
		{api.Result{Value: 0x0102030405060708}, "0000000000000000 0807060504030201 0000000000000000"},
		{api.Result{Value: math.MaxUint64, Bytes: []byte{9, 0, 254}}, "0000000000000000 ffffffffffffffff 0300000000000000 0900fe"},
		{api.Result{Bytes: []byte{1, 2, 3, 4, 5, 6, 7, 8}}, "0000000000000000 0000000000000000 0800000000000000 0102030405060708"},
		{api.Result{Bytes: []byte{0}}, "0000000000000000 0000000000000000 0100000000000000 00"},
	} {
		wantResult(t, x.r, digits(t, x.want))
	}
}

func TestP19_3MayByHand(t *testing.T) {
	for _, x := range []struct {
		r    api.Result
		want bool
	}{
		{api.Result{}, true}, {api.Result{Value: 1}, true}, {api.Result{Value: math.MaxUint64}, true}, {api.Result{Bytes: []byte{}}, true},
		{api.Result{Bytes: some(8)}, true}, {api.Result{Bytes: some(9)}, false}, {api.Result{Value: 5, Bytes: some(8)}, true}, {api.Result{Value: 5, Bytes: some(9)}, false},
		{api.Result{Errno: 1}, true}, {api.Result{Errno: 999}, true}, {api.Result{Errno: 1000}, false}, {api.Result{Errno: -1}, false},
		{api.Result{Errno: math.MinInt}, false}, {api.Result{Errno: math.MaxInt}, false}, {api.Result{Errno: 1, Bytes: []byte{}}, true},
		{api.Result{Errno: 1, Value: 1}, false}, {api.Result{Errno: 7, Value: 3}, false}, {api.Result{Errno: 7, Bytes: []byte{0}}, false},
		{api.Result{Errno: 999, Value: 1 << 63}, false}, {api.Result{Errno: 999, Bytes: some(8)}, false}, {api.Result{Errno: 1, Value: 1, Bytes: some(9)}, false},
	} {
		if got := calls.MayResult(x.r); got != x.want {
			t.Errorf("MayResult(%+v): %t", x.r, got)
		}
	}
}

// All errors, values and bytes: what may be has its form, and is read out of it; what may not be has none, and what would be its form is none.
func TestP19_3FormsOfAll(t *testing.T) {
	for _, r := range results() {
		if resultMay(r) {
			wantResult(t, r, resultForm(r))
			continue
		}
		wantNoResult(t, r)
		wantNoReadResult(t, resultForm(r))
	}
}

// Each error that may be, and those beside them.
func TestP19_3EachErrno(t *testing.T) {
	for errno := api.Errno(-1100); errno <= 2100; errno++ {
		if r := (api.Result{Errno: errno}); errno >= 0 && errno <= 999 {
			wantResult(t, r, resultForm(r))
		} else {
			wantNoResult(t, r)
			wantNoReadResult(t, resultForm(r))
		}
	}
}

// A form that is cut short anywhere, or has more behind it, is none.
func TestP19_3ReadOfOtherLengths(t *testing.T) {
	wantNoReadResult(t, nil)
	wantNoReadResult(t, []byte{})
	for _, r := range results() {
		if !resultMay(r) {
			continue
		}
		whole := resultForm(r)
		for n := range whole {
			wantNoReadResult(t, whole[:n])
		}
		for _, more := range [][]byte{{0}, {1}, {255}, make([]byte, 7), make([]byte, 8), some(8), make([]byte, 256), whole} {
			wantNoReadResult(t, slices.Concat(whole, more))
		}
	}
}

// How many bytes there are is just what is said, and at most 8; with an error there are none.
func TestP19_3ReadOfHowMany(t *testing.T) {
	for _, n := range []uint64{0, 1, 2, 7, 8, 9, 10, 255, 256, 257, 264, 1 << 32, 1<<32 + 1, 1 << 61, 1<<62 + 1, math.MaxInt, 1 << 63, 1<<63 + 1, math.MaxUint64 - 7, math.MaxUint64 - 1, math.MaxUint64} {
		for _, there := range []int{0, 1, 2, 7, 8, 9, 10, 255, 256, 257} {
			for _, errno := range []uint64{0, 1, 999} {
				b := append(numbers(errno, 0, n), some(there)...)
				if n == uint64(there) && (there == 0 || errno == 0 && there <= mostBytes) {
					wantResult(t, api.Result{Errno: api.Errno(errno), Bytes: some(there)}, b)
				} else {
					wantNoReadResult(t, b)
				}
			}
		}
	}
}

// Forms with a byte, or two, changed: what is read of them is what they say, and nothing of what says nothing.
func TestP19_3ReadOfChangedForms(t *testing.T) {
	for _, r := range []api.Result{{}, {Value: 1}, {Value: math.MaxUint64, Bytes: some(3)}, {Bytes: make([]byte, 8)}, {Bytes: []byte{1}}, {Errno: 1}, {Errno: 7}, {Errno: 999}} {
		whole := resultForm(r)
		for i := range whole {
			for value := range 256 {
				b := bytes.Clone(whole)
				b[i] = byte(value)
				wantPlainResult(t, b)
				wantPlainResult(t, append(b, 0))
				wantPlainResult(t, b[:len(b)-1])
				b[(i+16)%len(b)] ^= 1
				wantPlainResult(t, b)
			}
		}
	}
}

// What is told is the caller's own, and what is handed in is neither kept nor written to.
func TestP19_3IsTheCallers(t *testing.T) {
	for n := range mostBytes + 1 {
		kept := append(some(n), 77, 78, 79)
		was := bytes.Clone(kept)
		r := api.Result{Value: 5, Bytes: kept[:n]}
		want := resultForm(r)
		first, _ := calls.ResultBytes(r)
		second, _ := calls.ResultBytes(r)
		for i := range first {
			first[i] ^= 255
		}
		_ = append(first, 1, 2, 3)
		if !bytes.Equal(kept, was) {
			t.Errorf("ResultBytes with %d bytes: what was handed in is %x by now, not %x", n, kept, was)
		}
		for i := range kept {
			kept[i] ^= 255
		}
		if !bytes.Equal(second, want) {
			t.Errorf("ResultBytes with %d bytes: what was told is %x by now, not %x", n, second, want)
		}
		copy(kept, was)
		wantResult(t, r, want)
	}
}

func TestP19_3ReadIsTheCallers(t *testing.T) {
	for n := range mostBytes + 1 {
		want := api.Result{Value: 6, Bytes: some(n)}
		b := append(resultForm(want), 77, 78, 79)
		was := bytes.Clone(b)
		whole := b[:len(b)-3]
		first, _ := calls.ReadResult(whole)
		second, _ := calls.ReadResult(whole)
		for i := range first.Bytes {
			first.Bytes[i] ^= 255
		}
		_ = append(first.Bytes, 1, 2, 3)
		if !bytes.Equal(b, was) {
			t.Errorf("ReadResult of %x: it is %x by now", was, b)
		}
		for i := range b {
			b[i] ^= 255
		}
		if !alikeResults(second, want) {
			t.Errorf("ReadResult of %x: what was told is %+v by now, not %+v", was, second, want)
		}
		copy(b, was)
		wantResult(t, want, whole)
	}
}

// Results that differ in one field, in a byte, or in how many bytes they have, are not the same: such that may not be, too.
func TestP19_3Same(t *testing.T) {
	for _, a := range results() {
		own := api.Result{Errno: a.Errno, Value: a.Value, Bytes: bytes.Clone(a.Bytes)}
		wantSameResult(t, a, own, true)
		if len(a.Bytes) > 256 {
			continue // seen by the shorter ones
		}
		for _, errno := range errnos {
			other := own
			other.Errno = errno
			wantSameResult(t, a, other, errno == a.Errno)
		}
		for _, value := range values {
			other := own
			other.Value = value
			wantSameResult(t, a, other, value == a.Value)
		}
		own.Bytes = append(own.Bytes, 0)
		wantSameResult(t, a, own, false)
	}
}

func TestP19_3SameByBytes(t *testing.T) {
	for _, x := range lists() {
		for _, y := range lists() {
			wantSameResult(t, api.Result{Bytes: x}, api.Result{Bytes: y}, string(x) == string(y))
			wantSameResult(t, api.Result{Errno: 7, Value: 1, Bytes: x}, api.Result{Errno: 7, Value: 1, Bytes: y}, string(x) == string(y))
		}
		for i := range min(len(x), 9) {
			y := bytes.Clone(x)
			y[i] ^= 16
			wantSameResult(t, api.Result{Bytes: x}, api.Result{Bytes: y}, false)
			y = bytes.Clone(x)
			y[len(y)-1-i] ^= 1
			wantSameResult(t, api.Result{Bytes: x}, api.Result{Bytes: y}, false)
		}
	}
	wantSameResult(t, api.Result{}, api.Result{Bytes: []byte{}}, true)
}

// Nothing is kept: what is wrong in between changes no later answer.
func TestP19_3AskedAgain(t *testing.T) {
	for range 3 {
		wantNoResult(t, api.Result{Errno: 1000})
		wantNoReadResult(t, numbers(1000, 0, 0))
		wantResult(t, api.Result{Value: 3, Bytes: []byte{1}}, append(numbers(0, 3, 1), 1))
	}
}
