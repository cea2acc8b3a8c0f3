package handles_test

import (
	"math"
	"testing"

	"byre/api"
	"byre/handles"
)

// What the chapter names, in its own numbers.
const (
	maxTurn  = 1099511627776 // 2^40
	perTurn  = 32768         // 2^15
	perFrame = 32            // 2^5
	greatest = maxTurn*perTurn + perTurn - 1
)

// frames are numbers of frames, those that may be and others.
var frames = []int{
	math.MinInt, math.MinInt + 1, math.MinInt + 1023, -1 << 59, -1 << 32, 1 - 1<<32, -1025, -1024, -1023, -33, -32, -31, -2, -1,
	0, 1, 2, 30, 31, 32, 33, 63, 64, 127, 128, 255, 256, 511, 512, 513, 1021, 1022, 1023,
	1024, 1025, 1055, 1056, 2047, 2048, 32767, 32768, 1 << 16, 1 << 31, 1<<32 - 1, 1 << 32, 1<<32 + 1, 1<<32 + 1023,
	1 << 50, 1 << 59, 1<<59 + 1, 1 << 62, math.MaxInt - 1023, math.MaxInt - 1, math.MaxInt,
}

// indexes are objects' numbers in a slab, those that may be and others.
var indexes = []int{
	math.MinInt, math.MinInt + 1, math.MinInt + 31, -1 << 32, 1 - 1<<32, -33, -32, -31, -2, -1,
	0, 1, 2, 7, 8, 15, 16, 17, 29, 30, 31,
	32, 33, 62, 63, 64, 255, 256, 1023, 1024, 32767, 32768, 1 << 31, 1<<32 - 1, 1 << 32, 1<<32 + 1, 1<<32 + 31,
	1 << 55, 1 << 62, math.MaxInt - 31, math.MaxInt - 1, math.MaxInt,
}

// turns are turns, those that may be and others.
func turns() []uint64 {
	l := []uint64{
		0, 5, 6, 7, 100, 1000, 12345678901, maxTurn - 3, maxTurn - 2, maxTurn + 2, maxTurn * 2, maxTurn*2 - 1, maxTurn + perTurn,
		1<<49 + 2, 1<<49 + maxTurn, 1<<50 + 3, 3 << 49, 5<<49 + 7, 1<<63 + 2, 1<<63 + maxTurn, math.MaxUint64 - 1, math.MaxUint64,
	}
	for n := range 64 {
		l = append(l, 1<<n-1, 1<<n, 1<<n+1)
	}
	return l
}

// numbers are numbers at all bits' edges, handles and others.
func numbers() []uint64 {
	l := []uint64{98369, math.MaxUint64 - 1, math.MaxUint64, 1<<63 + perTurn, 0x5555555555555555, 0xaaaaaaaaaaaaaaaa, 0x0055555555555555, 0x002aaaaaaaaaaaaa}
	for n := range 64 {
		for m := range n + 1 {
			sum := uint64(1)<<n + 1<<m
			l = append(l, sum-1, sum, sum+1, 1<<n-1<<m)
		}
	}
	return l
}

// turnMay tells whether there may be the turn.
func turnMay(turn uint64) bool {
	return turn > 0 && turn < maxTurn+1
}

// placeMay tells whether there may be the place.
func placeMay(o api.Object) bool {
	return o.Frame > -1 && o.Frame < 1024 && o.Index > -1 && o.Index < 32
}

// want is what Make is to answer.
func want(turn uint64, o api.Object) (uint64, api.Errno) {
	if !turnMay(turn) || !placeMay(o) {
		return 0, api.ErrArg
	}
	return turn*perTurn + uint64(o.Frame)*perFrame + uint64(o.Index), api.OK
}

// wantMade holds what Make answers against what it is to answer.
func wantMade(t *testing.T, turn uint64, o api.Object, handle uint64, err api.Errno) {
	t.Helper()
	if h, e := handles.Make(turn, o); h != handle || e != err {
		t.Errorf("Make(%d, %d %d): %d, error %d; not %d, error %d", turn, o.Frame, o.Index, h, e, handle, err)
	}
}

// wantRead holds what Read answers against a turn and a place.
func wantRead(t *testing.T, h, turn uint64, o api.Object) {
	t.Helper()
	if its, at, e := handles.Read(h); its != turn || at != o || e != api.OK {
		t.Errorf("Read(%d): %d, %d %d, error %d; not %d, %d %d", h, its, at.Frame, at.Index, e, turn, o.Frame, o.Index)
	}
}

// wantNone holds what Read answers against what it is to answer of what is no handle.
func wantNone(t *testing.T, h uint64) {
	t.Helper()
	if turn, o, e := handles.Read(h); turn != 0 || o != (api.Object{}) || e != api.ErrHandle {
		t.Errorf("Read(%d): %d, %d %d, error %d; not zero, error %d", h, turn, o.Frame, o.Index, e, api.ErrHandle)
	}
}

// wantThereAndBack holds what Read answers against what a handle is to be made of, and what Make answers then against it.
func wantThereAndBack(t *testing.T, h uint64) {
	t.Helper()
	if h < perTurn || h > greatest {
		wantNone(t, h)
		return
	}
	turn, o := h/perTurn, api.Object{Frame: int(h % perTurn / perFrame), Index: int(h % perFrame)}
	wantRead(t, h, turn, o)
	wantMade(t, turn, o, h, api.OK)
}

// made is the handle of what may be.
func made(t *testing.T, turn uint64, frame, index int) uint64 {
	t.Helper()
	h, e := handles.Make(turn, api.Object{Frame: frame, Index: index})
	if e != api.OK {
		t.Errorf("Make(%d, %d %d): error %d", turn, frame, index, e)
	}
	return h
}

func TestP12_1Examples(t *testing.T) {
	wantMade(t, 1, api.Object{}, 32768, api.OK)
	wantMade(t, 3, api.Object{Frame: 2, Index: 1}, 98369, api.OK)
	wantNone(t, 32767)
	wantRead(t, 98369, 3, api.Object{Frame: 2, Index: 1})
}

func TestP12_1MakeOfTurns(t *testing.T) {
	o := api.Object{Frame: 5, Index: 3}
	for _, x := range []struct {
		turn, handle uint64
		err          api.Errno
	}{
		{0, 0, api.ErrArg},
		{1, 32931, api.OK},
		{2, 65699, api.OK},
		{maxTurn - 1, 36028797018931363, api.OK},
		{maxTurn, 36028797018964131, api.OK},
		{maxTurn + 1, 0, api.ErrArg},
		{math.MaxUint64, 0, api.ErrArg},
		// Their products with 2^15 would be 0, 2^15, 3 2^15 and 2^55, if they were wrapped.
		{1 << 49, 0, api.ErrArg},
		{1<<49 + 1, 0, api.ErrArg},
		{1<<63 + 3, 0, api.ErrArg},
		{1<<49 + maxTurn, 0, api.ErrArg},
	} {
		wantMade(t, x.turn, o, x.handle, x.err)
	}
}

func TestP12_1MakeOfFrames(t *testing.T) {
	for _, x := range []struct {
		frame  int
		handle uint64
	}{{0, 65543}, {1, 65575}, {1022, 98247}, {1023, 98279}} {
		wantMade(t, 2, api.Object{Frame: x.frame, Index: 7}, x.handle, api.OK)
	}
	for _, frame := range []int{math.MinInt, -1 << 32, -1024, -1, 1024, 1025, 1 << 32, 1 << 59, math.MaxInt} {
		wantMade(t, 2, api.Object{Frame: frame, Index: 7}, 0, api.ErrArg)
	}
}

func TestP12_1MakeOfIndexes(t *testing.T) {
	for _, x := range []struct {
		index  int
		handle uint64
	}{{0, 65824}, {1, 65825}, {30, 65854}, {31, 65855}} {
		wantMade(t, 2, api.Object{Frame: 9, Index: x.index}, x.handle, api.OK)
	}
	for _, index := range []int{math.MinInt, -1 << 32, -32, -1, 32, 33, 1 << 32, math.MaxInt} {
		wantMade(t, 2, api.Object{Frame: 9, Index: index}, 0, api.ErrArg)
	}
}

// What may not be alone, and together; and what may be is read as it was made.
func TestP12_1MakeOfAll(t *testing.T) {
	for _, turn := range turns() {
		for _, frame := range frames {
			for _, index := range indexes {
				o := api.Object{Frame: frame, Index: index}
				h, err := want(turn, o)
				wantMade(t, turn, o, h, err)
				if err == api.OK {
					wantRead(t, h, turn, o)
				}
			}
		}
	}
}

func TestP12_1ReadOfEdges(t *testing.T) {
	wantNone(t, 0)
	wantNone(t, 32767)
	wantRead(t, 32768, 1, api.Object{})
	wantRead(t, 32769, 1, api.Object{Index: 1})
	wantRead(t, 32799, 1, api.Object{Index: 31})
	wantRead(t, 32800, 1, api.Object{Frame: 1})
	wantRead(t, 65535, 1, api.Object{Frame: 1023, Index: 31})
	wantRead(t, 65536, 2, api.Object{})
	wantRead(t, greatest-perTurn, maxTurn-1, api.Object{Frame: 1023, Index: 31})
	wantRead(t, greatest-perTurn+1, maxTurn, api.Object{})
	wantRead(t, greatest, maxTurn, api.Object{Frame: 1023, Index: 31})
	wantNone(t, greatest+1)
	wantNone(t, 1<<63+perTurn)
	wantNone(t, math.MaxUint64)
}

// Of no turn no place has a handle.
func TestP12_1ReadOfNoTurn(t *testing.T) {
	for h := range uint64(perTurn) {
		wantNone(t, h)
	}
}

// Of a turn above the greatest one no place has a handle.
func TestP12_1ReadOfTurnsAbove(t *testing.T) {
	for _, turn := range []uint64{maxTurn + 1, maxTurn + 2, maxTurn * 2, maxTurn*2 + 1, 1<<48 + 1, 1<<49 - 1} {
		for at := range uint64(perTurn) {
			wantNone(t, turn*perTurn+at)
		}
	}
}

func TestP12_1ReadOfAll(t *testing.T) {
	for _, n := range numbers() {
		wantThereAndBack(t, n)
	}
	for n := range uint64(8 * perTurn) {
		wantThereAndBack(t, n)
		wantThereAndBack(t, greatest+4*perTurn-n)
	}
}

// Numbers all over the handles, and behind them.
func TestP12_1ReadAllOver(t *testing.T) {
	seed := uint64(12)
	for range 100000 {
		seed = seed*6364136223846793005 + 1442695040888963407
		wantThereAndBack(t, seed)
		wantThereAndBack(t, seed%(greatest+1))
		wantThereAndBack(t, seed>>(seed%64))
	}
}

// The handles of a turn rise with the places, each by one: so no two places have one, and none is another turn's.
func TestP12_1EachPlace(t *testing.T) {
	for _, turn := range turns() {
		if !turnMay(turn) {
			continue
		}
		next := turn * perTurn
		for frame := range 1024 {
			for index := range 32 {
				if h := made(t, turn, frame, index); h != next {
					t.Fatalf("the handle of the turn %d and the place %d %d: %d, not %d", turn, frame, index, h, next)
				}
				next++
			}
		}
	}
}

// Two places of a turn have two handles.
func TestP12_1TwoPlaces(t *testing.T) {
	for _, turn := range []uint64{1, 2, 3, 255, 1 << 20, maxTurn - 1, maxTurn} {
		whose := map[uint64]api.Object{}
		for frame := range 1024 {
			for index := range 32 {
				h, o := made(t, turn, frame, index), api.Object{Frame: frame, Index: index}
				if other, ok := whose[h]; ok {
					t.Fatalf("the turn %d: %v and %v have the handle %d", turn, other, o, h)
				}
				whose[h] = o
			}
		}
	}
}

// Of two turns the greater one has the greater handles, whatever the places; and none is 0.
func TestP12_1GreaterTurns(t *testing.T) {
	places := []api.Object{{}, {Index: 1}, {Index: 31}, {Frame: 1}, {Frame: 2, Index: 1}, {Frame: 511, Index: 30}, {Frame: 1023}, {Frame: 1023, Index: 31}}
	for _, lesser := range turns() {
		for _, greater := range turns() {
			if !turnMay(lesser) || !turnMay(greater) || lesser >= greater {
				continue
			}
			for _, o := range places {
				for _, p := range places {
					a, b := made(t, lesser, o.Frame, o.Index), made(t, greater, p.Frame, p.Index)
					if a == 0 || a >= b {
						t.Errorf("the turns %d and %d, the places %v and %v: %d and %d", lesser, greater, o, p, a, b)
					}
				}
			}
		}
	}
}

// Nothing is kept: what is wrong in between changes no later answer.
func TestP12_1AskedAgain(t *testing.T) {
	for range 3 {
		wantMade(t, maxTurn+1, api.Object{Frame: 2, Index: 1}, 0, api.ErrArg)
		wantMade(t, 3, api.Object{Frame: 2, Index: 1}, 98369, api.OK)
		wantNone(t, greatest+1)
		wantRead(t, 98369, 3, api.Object{Frame: 2, Index: 1})
	}
}
