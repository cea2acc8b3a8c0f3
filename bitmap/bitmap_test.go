package bitmap_test

import (
	"math"
	"slices"
	"testing"

	"byre/api"
	"byre/bitmap"
)

// sizes has those at which words of 64 bits begin and end.
var sizes = []int{0, 1, 2, 63, 64, 65, 127, 128, 129, 200}

// with is a set for n numbers that has those of in.
func with(t *testing.T, n int, in ...int) *bitmap.Set {
	t.Helper()
	s := bitmap.New(n)
	for _, i := range in {
		if e := s.Put(i); e != api.OK {
			t.Fatalf("New(%d).Put(%d): %d", n, i, e)
		}
	}
	return s
}

// wantAll holds a set against the numbers that are to be in it.
func wantAll(t *testing.T, s *bitmap.Set, want ...int) {
	t.Helper()
	if got := slices.Collect(s.All()); !slices.Equal(got, want) {
		t.Errorf("All: %v, not %v", got, want)
	}
	if s.Len() != len(want) {
		t.Errorf("Len: %d, not %d", s.Len(), len(want))
	}
}

// wantFound holds what a search answers against the number that it is to find; below 0: none.
func wantFound(t *testing.T, what string, got int, ok bool, want int) {
	t.Helper()
	if want < 0 && (ok || got != 0) || want >= 0 && (!ok || got != want) {
		t.Errorf("%s: %d, %v; not %d", what, got, ok, want)
	}
}

func TestP1_1NewSize(t *testing.T) {
	for _, c := range []struct{ n, size int }{
		{math.MinInt, 0}, {-1, 0}, {0, 0}, {1, 1}, {64, 64}, {65, 65},
		{api.MaxSet - 1, api.MaxSet - 1}, {api.MaxSet, api.MaxSet},
		{api.MaxSet + 1, api.MaxSet}, {math.MaxInt, api.MaxSet},
	} {
		s := bitmap.New(c.n)
		if s == nil {
			t.Fatalf("New(%d): nil", c.n)
		}
		if s.Size() != c.size {
			t.Errorf("New(%d).Size: %d, not %d", c.n, s.Size(), c.size)
		}
		wantAll(t, s)
		if e := s.Put(c.size); e != api.ErrArg {
			t.Errorf("New(%d).Put(%d): %d", c.n, c.size, e)
		}
		if c.size == 0 {
			continue
		}
		if e := s.Put(c.size - 1); e != api.OK || !s.Has(c.size-1) {
			t.Errorf("New(%d).Put(%d): %d", c.n, c.size-1, e)
		}
	}
}

func TestP1_1LenHas(t *testing.T) {
	s := with(t, 130, 0, 63, 64, 129)
	for i := -2; i < 200; i++ {
		want := i == 0 || i == 63 || i == 64 || i == 129
		if s.Has(i) != want {
			t.Errorf("Has(%d): %v", i, s.Has(i))
		}
	}
	if s.Has(math.MinInt) || s.Has(math.MaxInt) {
		t.Error("Has of a number that is none of the set's")
	}
	if s.Len() != 4 || s.Size() != 130 {
		t.Errorf("Len, Size: %d, %d", s.Len(), s.Size())
	}
	s.Take(63)
	if s.Len() != 3 || s.Has(63) {
		t.Errorf("Len, Has(63) behind Take(63): %d, %v", s.Len(), s.Has(63))
	}
}

func TestP1_2PutTake(t *testing.T) {
	for _, n := range sizes {
		s := bitmap.New(n)
		for i := 0; i < n; i++ {
			for _, c := range []struct {
				call func(int) api.Errno
				want api.Errno
				in   bool
			}{
				{s.Take, api.ErrNone, false}, {s.Put, api.OK, true}, {s.Put, api.ErrTwice, true},
				{s.Take, api.OK, false}, {s.Take, api.ErrNone, false}, {s.Put, api.OK, true},
			} {
				if e := c.call(i); e != c.want || s.Has(i) != c.in {
					t.Fatalf("a set for %d: %d: error %d, not %d; Has %v", n, i, e, c.want, s.Has(i))
				}
			}
			if s.Len() != i+1 {
				t.Fatalf("a set for %d: Len %d behind Put(%d)", n, s.Len(), i)
			}
		}
	}
}

func TestP1_2NoneOfItsNumbers(t *testing.T) {
	for _, n := range sizes {
		s := bitmap.New(n)
		for _, i := range []int{math.MinInt, -65, -64, -1, n, n + 1, n + 64, api.MaxSet, math.MaxInt} {
			if e := s.Put(i); e != api.ErrArg {
				t.Errorf("a set for %d: Put(%d): %d", n, i, e)
			}
			if e := s.Take(i); e != api.ErrArg {
				t.Errorf("a set for %d: Take(%d): %d", n, i, e)
			}
		}
		wantAll(t, s)
	}
}

func TestP1_3Examples(t *testing.T) {
	s := with(t, 8, 0, 1, 4)
	i, ok := s.Free(0)
	wantFound(t, "Free(0)", i, ok, 2)
	i, ok = s.Next(2)
	wantFound(t, "Next(2)", i, ok, 4)
	i, ok = s.Run(0, 2)
	wantFound(t, "Run(0, 2)", i, ok, 2)
	i, ok = s.Run(0, 4)
	wantFound(t, "Run(0, 4)", i, ok, -1)
	i, ok = s.Run(0, 3)
	wantFound(t, "Run(0, 3)", i, ok, 5)
	i, ok = s.Run(3, 1)
	wantFound(t, "Run(3, 1)", i, ok, 3)
	i, ok = s.Run(3, 2)
	wantFound(t, "Run(3, 2)", i, ok, 5)
}

// slowFind looks at each start one after the other for many numbers that are in, or are not.
func slowFind(in []bool, from, many int, want bool) int {
	for start := max(from, 0); many >= 1 && start+many <= len(in); start++ {
		if !slices.Contains(in[start:start+many], !want) {
			return start
		}
	}
	return -1
}

// patterns are which of n numbers are in: none, all, each so-manyth, blocks over the words' ends.
func patterns() []func(i int) bool {
	return []func(i int) bool{
		func(i int) bool { return false },
		func(i int) bool { return true },
		func(i int) bool { return i%2 == 0 },
		func(i int) bool { return i%3 != 1 },
		func(i int) bool { return i%64 == 63 },
		func(i int) bool { return i%64 == 0 },
		func(i int) bool { return i >= 60 && i < 130 },
		func(i int) bool { return i < 62 || i > 66 },
		func(i int) bool { return i*i%17 < 5 },
	}
}

func TestP1_3AgainstSlow(t *testing.T) {
	for _, n := range sizes {
		for _, pattern := range patterns() {
			s, in := bitmap.New(n), make([]bool, n)
			for i := range n {
				if in[i] = pattern(i); in[i] {
					s.Put(i)
				}
			}
			for from := -3; from <= n+3; from++ {
				i, ok := s.Free(from)
				wantFound(t, "Free", i, ok, slowFind(in, from, 1, false))
				i, ok = s.Next(from)
				wantFound(t, "Next", i, ok, slowFind(in, from, 1, true))
				for _, many := range []int{-1, 0, 1, 2, 3, 5, 63, 64, 65, 70, n - 1, n, n + 1} {
					i, ok = s.Run(from, many)
					wantFound(t, "Run", i, ok, slowFind(in, from, many, false))
				}
			}
		}
	}
}

func TestP1_3FarNumbers(t *testing.T) {
	s := with(t, 70, 3, 69)
	for _, c := range []struct{ from, free, next, run int }{
		{math.MinInt, 0, 3, 0}, {-1, 0, 3, 0}, {69, -1, 69, -1}, {70, -1, -1, -1},
		{128, -1, -1, -1}, {api.MaxSet, -1, -1, -1}, {math.MaxInt, -1, -1, -1},
	} {
		i, ok := s.Free(c.from)
		wantFound(t, "Free", i, ok, c.free)
		i, ok = s.Next(c.from)
		wantFound(t, "Next", i, ok, c.next)
		i, ok = s.Run(c.from, 3)
		wantFound(t, "Run", i, ok, c.run)
	}
	for _, many := range []int{math.MinInt, -1, 0, math.MaxInt, math.MaxInt - 1} {
		for _, from := range []int{math.MinInt, 0, 4, 69, 70, math.MaxInt} {
			i, ok := s.Run(from, many)
			wantFound(t, "Run of a wrong many", i, ok, -1)
		}
	}
}

// A sum of from and many would wrap here, and what is free goes to the set's end.
func TestP1_3ManyNeverWraps(t *testing.T) {
	s := with(t, 70, 3)
	for _, many := range []int{67, math.MaxInt - 4, math.MaxInt - 3, math.MaxInt - 1, math.MaxInt} {
		for _, from := range []int{math.MinInt, -1, 0, 1, 4, 69, 70, math.MaxInt} {
			i, ok := s.Run(from, many)
			wantFound(t, "Run of more than there are", i, ok, -1)
		}
	}
	i, ok := s.Run(0, 66)
	wantFound(t, "Run to the end", i, ok, 4)
}

func TestP1_3Largest(t *testing.T) {
	s := bitmap.New(math.MaxInt)
	i, ok := s.Run(0, api.MaxSet)
	wantFound(t, "Run of all", i, ok, 0)
	i, ok = s.Run(1, api.MaxSet)
	wantFound(t, "Run over the end", i, ok, -1)
	i, ok = s.Run(0, api.MaxSet+1)
	wantFound(t, "Run of more than all", i, ok, -1)
	s.Put(api.MaxSet - 1)
	i, ok = s.Next(0)
	wantFound(t, "Next", i, ok, api.MaxSet-1)
	i, ok = s.Run(0, api.MaxSet)
	wantFound(t, "Run of all but one", i, ok, -1)
}

func TestP1_3LooksChangeNothing(t *testing.T) {
	s := with(t, 130, 0, 64, 129)
	s.Free(-1)
	s.Next(65)
	s.Run(0, 200)
	s.Has(64)
	wantAll(t, s, 0, 64, 129)
}

func TestP1_4All(t *testing.T) {
	wantAll(t, with(t, 200, 199, 64, 0, 128, 63), 0, 63, 64, 128, 199)
	wantAll(t, with(t, 3, 0, 1, 2), 0, 1, 2)
	wantAll(t, bitmap.New(200))
	wantAll(t, bitmap.New(0))
}

func TestP1_4AllTwice(t *testing.T) {
	s := with(t, 100, 5, 70)
	all := s.All()
	for range 2 {
		if got := slices.Collect(all); !slices.Equal(got, []int{5, 70}) {
			t.Errorf("All: %v", got)
		}
	}
	s.Put(6)
	if got := slices.Collect(all); !slices.Equal(got, []int{5, 6, 70}) {
		t.Errorf("All behind Put(6): %v", got)
	}
}

func TestP1_4AllAsTheyAre(t *testing.T) {
	s := with(t, 200, 3, 4, 100, 150)
	var got []int
	for i := range s.All() {
		got = append(got, i)
		if i == 3 {
			s.Take(3)
			s.Take(4)
			s.Put(2)
			s.Put(5)
			s.Take(100)
			s.Put(199)
		}
	}
	if !slices.Equal(got, []int{3, 5, 150, 199}) {
		t.Errorf("All of a set that changes: %v", got)
	}
	wantAll(t, s, 2, 5, 150, 199)
}

func TestP1_4AllBrokenOff(t *testing.T) {
	s := with(t, 200, 3, 4, 100, 150)
	for many := 1; many <= 4; many++ {
		told := 0
		s.All()(func(int) bool {
			told++
			return told < many
		})
		if told != many {
			t.Errorf("broken off behind %d: told %d", many, told)
		}
	}
	wantAll(t, s, 3, 4, 100, 150)
}

func TestP1_4Copy(t *testing.T) {
	s := with(t, 130, 1, 64, 129)
	c := s.Copy()
	if c == nil || c == s || c.Size() != 130 {
		t.Fatal("Copy")
	}
	wantAll(t, c, 1, 64, 129)
	s.Take(64)
	s.Put(2)
	wantAll(t, c, 1, 64, 129)
	c.Put(65)
	c.Take(1)
	wantAll(t, c, 64, 65, 129)
	wantAll(t, s, 1, 2, 129)
	if e := c.Put(130); e != api.ErrArg {
		t.Errorf("Copy.Put(130): %d", e)
	}
}

// wantNone holds a set that has no numbers of its own against what all such are to answer.
func wantNone(t *testing.T, s *bitmap.Set) {
	t.Helper()
	if s.Size() != 0 || s.Len() != 0 {
		t.Errorf("Size, Len: %d, %d", s.Size(), s.Len())
	}
	for _, i := range []int{math.MinInt, -1, 0, 1, math.MaxInt} {
		if s.Has(i) {
			t.Errorf("Has(%d)", i)
		}
		j, ok := s.Free(i)
		wantFound(t, "Free", j, ok, -1)
		j, ok = s.Next(i)
		wantFound(t, "Next", j, ok, -1)
		for _, many := range []int{-1, 0, 1, math.MaxInt} {
			j, ok = s.Run(i, many)
			wantFound(t, "Run", j, ok, -1)
		}
	}
	if s.All() == nil {
		t.Fatal("All: nil")
	}
	for i := range s.All() {
		t.Errorf("All tells %d", i)
	}
}

func TestNotThere(t *testing.T) {
	var s *bitmap.Set
	wantNone(t, s)
	for _, i := range []int{-1, 0, 1, api.MaxSet} {
		if e := s.Put(i); e != api.ErrNil {
			t.Errorf("Put(%d): %d", i, e)
		}
		if e := s.Take(i); e != api.ErrNil {
			t.Errorf("Take(%d): %d", i, e)
		}
	}
	if s.Copy() != nil {
		t.Error("Copy: not nil")
	}
}

func TestZeroOne(t *testing.T) {
	var s bitmap.Set
	wantNone(t, &s)
	for _, i := range []int{-1, 0, 1, api.MaxSet} {
		if e := s.Put(i); e != api.ErrArg {
			t.Errorf("Put(%d): %d", i, e)
		}
		if e := s.Take(i); e != api.ErrArg {
			t.Errorf("Take(%d): %d", i, e)
		}
	}
	if s.Copy() == nil {
		t.Fatal("Copy: nil")
	}
	wantNone(t, s.Copy())
}
