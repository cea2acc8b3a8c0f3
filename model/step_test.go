package model_test

import (
	"math"
	"testing"

	"byre/api"
	"byre/model"
)

// Calls, in short.
func exitOf(pid int) api.Call { return api.Call{Kind: exit, Pid: pid} }
func mmapOf(pid, page, count int, rights uint8) api.Call {
	return api.Call{Kind: mmap, Pid: pid, Page: page, Count: count, Rights: rights}
}
func munmapOf(pid, page, count int) api.Call {
	return api.Call{Kind: munmap, Pid: pid, Page: page, Count: count}
}
func mprotectOf(pid, page, count int, rights uint8) api.Call {
	return api.Call{Kind: mprotect, Pid: pid, Page: page, Count: count, Rights: rights}
}
func mlockOf(pid, page, count int) api.Call {
	return api.Call{Kind: mlock, Pid: pid, Page: page, Count: count}
}
func munlockOf(pid, page, count int) api.Call {
	return api.Call{Kind: munlock, Pid: pid, Page: page, Count: count}
}
func loadOf(pid, addr, size int) api.Call {
	return api.Call{Kind: load, Pid: pid, Addr: addr, Size: size}
}
func storeOf(pid, addr int, b ...byte) api.Call {
	return api.Call{Kind: store, Pid: pid, Addr: addr, Bytes: b}
}
func kmallocOf(size int) api.Call    { return api.Call{Kind: kmalloc, Size: size} }
func kfreeOf(handle uint64) api.Call { return api.Call{Kind: kfree, Handle: handle} }
func peekOf(handle uint64, addr, size int) api.Call {
	return api.Call{Kind: peek, Handle: handle, Addr: addr, Size: size}
}
func pokeOf(handle uint64, addr int, b ...byte) api.Call {
	return api.Call{Kind: poke, Handle: handle, Addr: addr, Bytes: b}
}
func policyOf(pid int, kind api.PolicyKind, mask uint8) api.Call {
	return api.Call{Kind: setPolicy, Pid: pid, Policy: api.Policy{Kind: kind, Mask: mask}}
}
func mbindOf(pid, page, count int, kind api.PolicyKind, mask uint8) api.Call {
	return api.Call{Kind: mbind, Pid: pid, Page: page, Count: count, Policy: api.Policy{Kind: kind, Mask: mask}}
}
func getPolicyOf(pid, page int) api.Call { return api.Call{Kind: getPolicy, Pid: pid, Page: page} }
func whereOf(pid, page int) api.Call     { return api.Call{Kind: where, Pid: pid, Page: page} }
func movePagesOf(pid, page, count, node int) api.Call {
	return api.Call{Kind: movePages, Pid: pid, Page: page, Count: count, Node: node}
}

// Answers, in short.
func value(n uint64) api.Result { return api.Result{Value: n} }
func told(b ...byte) api.Result { return api.Result{Bytes: b} }
func no(e api.Errno) api.Result { return api.Result{Errno: e} }

var (
	ok       = api.Result{}
	spawning = api.Call{Kind: spawn}
)

// numbered is n bytes that rise from first on.
func numbered(first byte, n int) []byte {
	b := make([]byte, n)
	for i := range b {
		b[i] = first + byte(i)
	}
	return b
}

// line is a call with an answer, and whether it may be answered so: the document's words, by hand.
type line struct {
	call api.Call
	r    api.Result
	want bool
}

// run has the lines done one after the other. All is looked at behind each of them: what may not be is to have changed nothing.
func (x both) run(t *testing.T, what string, lines ...line) {
	t.Helper()
	for i, l := range lines {
		was := x.m.Copy()
		if got := x.hold(t, l.call, l.r); got != l.want {
			t.Fatalf("%s, line %d: the tests' own plain machine tells %t of %+v, %+v", what, i, got, l.call, l.r)
		}
		if !l.want && !x.m.Same(was) {
			t.Errorf("%s, line %d: %+v, %+v may not be, and changed the machine", what, i, l.call, l.r)
		}
		x.want(t, what)
	}
}

// errnos are errors, those that there are and others.
var errnos = []api.Errno{
	math.MinInt, -190, -7, -1, api.ErrNil, api.ErrArg, api.ErrLong, api.ErrShort, api.ErrForm, api.ErrMemory, api.ErrNone, api.ErrTwice, api.ErrFull,
	10, api.ErrIO, api.ErrRank, api.ErrBusy, api.ErrHandle, api.ErrRights, api.ErrIdle, 256 + 7, 999, 1000, 1<<32 + 7, math.MaxInt,
}

// answers are many that a call may or may not have; right is among them.
func answers(right api.Result) []api.Result {
	l := []api.Result{right}
	for _, e := range append([]api.Errno{api.OK}, errnos...) {
		l = append(l, no(e), api.Result{Errno: e, Bytes: []byte{}}, api.Result{Errno: e, Value: 1}, api.Result{Errno: e, Bytes: []byte{0}}, api.Result{Errno: e, Value: right.Value, Bytes: right.Bytes})
	}
	for _, n := range []uint64{2, 3, 7, 8, 9, 10, 255, 256, 257, 512, 513, 1 << 32, 1<<32 + 1, 1 << 63, math.MaxUint64} {
		l = append(l, value(n), value(right.Value+n), value(right.Value-n))
	}
	l = append(l, value(right.Value+1), value(right.Value-1), api.Result{Value: right.Value, Bytes: append([]byte{0}, right.Bytes...)})
	for _, n := range []int{1, 2, 7, 8, 9, 128, 256} {
		l = append(l, told(make([]byte, n)...), api.Result{Value: right.Value, Bytes: make([]byte, n)})
	}
	if n := len(right.Bytes); n > 0 {
		l = append(l, told(right.Bytes[:n-1]...), told(right.Bytes[1:]...), told(append([]byte{right.Bytes[0]}, right.Bytes...)...), api.Result{Value: 1, Bytes: right.Bytes})
		for i := range right.Bytes {
			b := append([]byte(nil), right.Bytes...)
			b[i] ^= 1 << (i % 8)
			l = append(l, told(b...))
		}
	}
	return l
}

// tryAnswers has many answers tried, each one on the machine if it may not be, and on a copy if it may. The machine is left as it was. What it tells is how many may be.
func (x both) tryAnswers(t *testing.T, call api.Call, next uint64) int {
	t.Helper()
	many := 0
	for _, r := range answers(x.p.right(call, next)) {
		if !x.p.may(call, r) {
			x.hold(t, call, r)
			continue
		}
		many++
		if !x.m.Copy().Step(call, r) {
			t.Errorf("%d nodes: Step(%+v, %+v): false", x.p.c.Nodes, call, r)
		}
	}
	return many
}

func TestExamples(t *testing.T) {
	x := made(t, 1)
	x.run(t, "spawns", line{spawning, value(1), true}, line{spawning, value(3), false})
	x.run(t, "loads",
		line{mmapOf(1, 0, 2, 3), ok, true},
		line{loadOf(1, 5, 2), told(0, 0), true},
		line{loadOf(1, 600, 1), no(api.ErrNone), true},
	)
	x.run(t, "kmallocs",
		line{kmallocOf(8), value(0), false},
		line{kmallocOf(8), value(7), true},
		line{kmallocOf(8), value(7), false},
	)
}

func TestP20_1New(t *testing.T) {
	for nodes := 1; nodes <= 8; nodes++ {
		x := made(t, nodes)
		x.wantAll(t, "new")
		if x.m.Has(1) || len(x.m.Objects()) != 0 {
			t.Errorf("%d nodes: a new machine has a process or objects", nodes)
		}
	}
	least, most := api.Config{Nodes: 1, CPUs: 1}, machine(8)
	least.Frames[0], most.CPUs, most.Slots = 4, 16, 1024
	madeOf(t, least).want(t, "the least one")
	madeOf(t, most).want(t, "the greatest one")
}

// noMachines are configs that may not be.
func noMachines() []api.Config {
	spoilt := func(do func(c *api.Config)) api.Config {
		c := machine(3)
		do(&c)
		return c
	}
	return []api.Config{
		{}, machine(0), {Nodes: 1, CPUs: 1}, {Nodes: 8},
		spoilt(func(c *api.Config) { c.Nodes = 2 }), spoilt(func(c *api.Config) { c.Nodes = 4 }),
		spoilt(func(c *api.Config) { c.Nodes = 0 }), spoilt(func(c *api.Config) { c.Nodes = -1 }), spoilt(func(c *api.Config) { c.Nodes = 9 }),
		spoilt(func(c *api.Config) { c.Nodes = math.MinInt }), spoilt(func(c *api.Config) { c.Nodes = math.MaxInt }),
		spoilt(func(c *api.Config) { c.CPUs = 0 }), spoilt(func(c *api.Config) { c.CPUs = 17 }), spoilt(func(c *api.Config) { c.CPUs = math.MinInt }),
		spoilt(func(c *api.Config) { c.Home[0] = 3 }), spoilt(func(c *api.Config) { c.Home[0] = -1 }), spoilt(func(c *api.Config) { c.Home[2] = 1 }),
		spoilt(func(c *api.Config) { c.Frames[1] = 3 }), spoilt(func(c *api.Config) { c.Frames[1] = 129 }), spoilt(func(c *api.Config) { c.Frames[7] = 4 }),
		spoilt(func(c *api.Config) { c.Distance[0][1] = 9 }), spoilt(func(c *api.Config) { c.Distance[2][2] = 1 }),
		spoilt(func(c *api.Config) { c.Slots = -1 }), spoilt(func(c *api.Config) { c.Slots = 1025 }),
		spoilt(func(c *api.Config) { c.Min = -1 }), spoilt(func(c *api.Config) { c.Min = 3 }), spoilt(func(c *api.Config) { c.High = 5 }),
	}
}

func TestP20_1NewOfNoMachines(t *testing.T) {
	for _, c := range noMachines() {
		if m, e := model.New(c); m != nil || e != api.ErrArg {
			t.Errorf("New(%+v): %v, error %d", c, m, e)
		}
	}
}

// The least pid that is not there: rising ones, up to all eight, and those that ended, the lesser one first.
func TestP20_1Spawn(t *testing.T) {
	x := made(t, 1)
	for pid := uint64(1); pid <= 8; pid++ {
		x.run(t, "rising",
			line{spawning, ok, false},
			line{spawning, value(pid + 1), false},
			line{spawning, value(pid - 1), false},
			line{spawning, no(api.ErrFull), false},
			line{spawning, no(api.ErrMemory), true},
			line{spawning, api.Result{Value: pid, Bytes: []byte{0}}, false},
			line{spawning, api.Result{Errno: api.ErrMemory, Value: pid}, false},
			line{spawning, value(pid), true},
		)
	}
	x.run(t, "all there",
		line{spawning, value(9), false},
		line{spawning, value(1), false},
		line{spawning, ok, false},
		line{spawning, api.Result{Errno: api.ErrFull, Value: 9}, false},
		line{spawning, api.Result{Errno: api.ErrFull, Bytes: []byte{9}}, false},
		line{spawning, no(api.ErrNone), false},
		line{spawning, no(api.ErrMemory), true},
		line{spawning, no(api.ErrIO), false},
		line{spawning, no(api.ErrFull), true},
	)
	x.run(t, "some ended",
		line{exitOf(8), ok, true},
		line{exitOf(5), ok, true},
		line{exitOf(3), ok, true},
		line{spawning, no(api.ErrFull), false},
		line{spawning, value(5), false},
		line{spawning, value(8), false},
		line{spawning, value(3), true},
		line{spawning, value(3), false},
		line{spawning, value(5), true},
		line{exitOf(1), ok, true},
		line{spawning, value(1), true},
		line{spawning, value(8), true},
		line{spawning, no(api.ErrFull), true},
	)
}

func TestP20_1Exit(t *testing.T) {
	x := made(t, 8)
	x.run(t, "nobody",
		line{exitOf(1), ok, false},
		line{exitOf(1), no(api.ErrNone), true},
		line{exitOf(1), api.Result{Errno: api.ErrNone, Value: 1}, false},
		line{exitOf(0), no(api.ErrArg), false},
		line{exitOf(0), no(api.ErrNone), true},
	)
	x.done(t, spawning)
	x.done(t, spawning)
	for _, pid := range pidEdges {
		if pid != 1 && pid != 2 {
			x.run(t, "not there",
				line{exitOf(pid), ok, false},
				line{exitOf(pid), no(api.ErrArg), false},
				line{exitOf(pid), no(api.ErrMemory), false},
				line{exitOf(pid), no(api.ErrNone), true},
			)
		}
	}
	x.run(t, "there",
		line{exitOf(1), no(api.ErrNone), false},
		line{exitOf(1), value(1), false},
		line{exitOf(1), told(0), false},
		line{exitOf(1), no(api.ErrMemory), false},
		line{exitOf(1), no(api.ErrIO), false},
		line{exitOf(1), ok, true},
		line{exitOf(1), ok, false},
		line{exitOf(1), no(api.ErrNone), true},
		line{exitOf(2), ok, true},
	)
}

// One that is there again has nothing of what it had: neither pages nor bytes nor policies, and its policy is PolicyLocal.
func TestP20_1ThereAgain(t *testing.T) {
	x := made(t, 8)
	x.run(t, "there",
		line{spawning, value(1), true},
		line{mmapOf(1, 0, 1024, 3), ok, true},
		line{storeOf(1, 5, 7), ok, true},
		line{policyOf(1, 3, 255), ok, true},
		line{mbindOf(1, 7, 2, 2, 128), ok, true},
	)
	x.run(t, "and not",
		line{exitOf(1), ok, true},
		line{loadOf(1, 5, 1), told(7), false},
		line{loadOf(1, 5, 1), no(api.ErrNone), true},
		line{getPolicyOf(1, 7), no(api.ErrNone), true},
		line{getPolicyOf(1, 7), value(640), false},
	)
	x.run(t, "and again",
		line{spawning, value(1), true},
		line{getPolicyOf(1, 7), ok, true},
		line{getPolicyOf(1, 0), value(1023), false},
		line{loadOf(1, 5, 1), no(api.ErrNone), true},
		line{munlockOf(1, 0, 1), no(api.ErrNone), true},
		line{mmapOf(1, 0, 1024, 1), ok, true},
		line{loadOf(1, 5, 1), told(7), false},
		line{loadOf(1, 5, 1), told(0), true},
		line{getPolicyOf(1, 7), ok, true},
	)
}

func TestP20_1Mmap(t *testing.T) {
	x := made(t, 1)
	x.run(t, "nobody", line{mmapOf(1, 0, 1, 3), ok, false}, line{mmapOf(1, 0, 1, 3), no(api.ErrNone), true})
	x.done(t, spawning)
	x.run(t, "one page",
		line{mmapOf(1, 1023, 1, 2), value(1), false},
		line{mmapOf(1, 1023, 1, 2), told(0), false},
		line{mmapOf(1, 1023, 1, 2), no(api.ErrTwice), false},
		line{mmapOf(1, 1023, 1, 2), no(api.ErrMemory), false},
		line{mmapOf(1, 1023, 1, 2), no(api.ErrIO), false},
		line{mmapOf(1, 1023, 1, 2), ok, true},
		line{mmapOf(1, 1023, 1, 2), ok, false},
		line{mmapOf(1, 1023, 1, 2), api.Result{Errno: api.ErrTwice, Value: 1}, false},
		line{mmapOf(1, 1023, 1, 2), api.Result{Errno: api.ErrTwice, Bytes: []byte{1}}, false},
		line{mmapOf(1, 1023, 1, 2), no(api.ErrTwice), true},
	)
	x.run(t, "all pages",
		line{mmapOf(1, 0, 1024, 3), no(api.ErrTwice), true},
		line{mmapOf(1, 0, 1023, 3), no(api.ErrTwice), false},
		line{mmapOf(1, 0, 1023, 3), ok, true},
		line{mmapOf(1, 0, 1, 3), no(api.ErrTwice), true},
		line{mmapOf(2, 0, 1, 3), no(api.ErrNone), true},
		line{munmapOf(1, 0, 1024), ok, true},
		line{mmapOf(1, 0, 1024, 1), ok, true},
	)
	x.run(t, "no call",
		line{mmapOf(1, 0, 1025, 3), no(api.ErrArg), true},
		line{mmapOf(1, 0, 1025, 3), no(api.ErrTwice), false},
		line{mmapOf(9, 0, 1, 4), no(api.ErrArg), true},
		line{mmapOf(9, 0, 1, 4), no(api.ErrNone), false},
	)
}

// At most 32 runs: of a mmap, of an unmap and of a protect that would make one more.
func TestP20_1Full(t *testing.T) {
	x := made(t, 1)
	x.done(t, spawning)
	for i := range 32 {
		x.run(t, "runs", line{mmapOf(1, 20*i, 10, 3), no(api.ErrFull), false}, line{mmapOf(1, 20*i, 10, 3), ok, true})
	}
	x.done(t, storeOf(1, 5*256, 1, 2))
	x.done(t, mbindOf(1, 3, 4, 2, 1))
	x.run(t, "full",
		line{mmapOf(1, 1000, 1, 3), ok, false},
		line{mmapOf(1, 1000, 1, 3), no(api.ErrFull), true},
		line{mmapOf(1, 1000, 1, 3), api.Result{Errno: api.ErrFull, Value: 1}, false},
		line{munmapOf(1, 5, 1), ok, false},
		line{munmapOf(1, 5, 1), no(api.ErrFull), true},
		line{loadOf(1, 5*256, 2), told(1, 2), true},
		line{getPolicyOf(1, 5), value(513), true},
		line{mprotectOf(1, 5, 1, 1), ok, false},
		line{mprotectOf(1, 5, 1, 1), no(api.ErrFull), true},
		line{storeOf(1, 5*256, 3), ok, true},
		line{mprotectOf(1, 5, 1, 3), ok, true},
		line{mmapOf(1, 10, 1, 3), ok, true},
		line{mmapOf(1, 9, 1, 3), no(api.ErrTwice), true},
		line{munmapOf(1, 9, 2), ok, true},
	)
	x.run(t, "one less",
		line{munmapOf(1, 600, 424), ok, true},
		line{mprotectOf(1, 0, 1, 1), ok, true},
		line{munmapOf(1, 580, 10), ok, true},
		line{munmapOf(1, 5, 1), ok, true},
		line{munmapOf(1, 5, 1), no(api.ErrFull), false},
		line{mmapOf(1, 5, 1, 3), ok, true},
		line{loadOf(1, 5*256, 2), told(0, 0), true},
	)
}

func TestP20_1Munmap(t *testing.T) {
	x := made(t, 1)
	x.run(t, "nobody", line{munmapOf(1, 0, 1), ok, false}, line{munmapOf(1, 0, 1), no(api.ErrNone), true})
	x.done(t, spawning)
	x.run(t, "nothing mapped",
		line{munmapOf(1, 0, 1024), no(api.ErrNone), false},
		line{munmapOf(1, 0, 1024), ok, true},
		line{munmapOf(1, 1023, 1), ok, true},
	)
	x.done(t, mmapOf(1, 0, 6, 3))
	for page := range 6 {
		x.done(t, storeOf(1, 256*page, 7, byte(page)))
		x.done(t, storeOf(1, 256*page+255, 8))
		x.done(t, mbindOf(1, page, 1, 2, 1))
	}
	x.run(t, "some of them",
		line{munmapOf(1, 1, 2), value(1), false},
		line{munmapOf(1, 1, 2), told(0), false},
		line{munmapOf(1, 1, 2), no(api.ErrNone), false},
		line{munmapOf(1, 1, 2), no(api.ErrMemory), false},
		line{munmapOf(1, 1, 2), no(api.ErrIO), false},
		line{munmapOf(1, 1, 2), ok, true},
		line{loadOf(1, 0, 2), told(7, 0), true},
		line{loadOf(1, 256, 2), no(api.ErrNone), true},
		line{loadOf(1, 767, 1), no(api.ErrNone), true},
		line{loadOf(1, 768, 2), told(7, 3), true},
		line{getPolicyOf(1, 1), ok, true},
		line{getPolicyOf(1, 2), ok, true},
		line{getPolicyOf(1, 3), value(513), true},
		line{getPolicyOf(1, 0), value(513), true},
		line{mmapOf(1, 1, 2, 3), ok, true},
		line{loadOf(1, 256, 2), told(0, 0), true},
		line{loadOf(1, 511, 1), told(0), true},
		line{loadOf(1, 512, 2), told(7, 2), false},
		line{loadOf(1, 512, 2), told(0, 0), true},
		line{getPolicyOf(1, 1), value(513), false},
		line{getPolicyOf(1, 1), ok, true},
		line{getPolicyOf(1, 2), ok, true},
	)
	x.run(t, "in part, and all",
		line{munmapOf(1, 5, 100), ok, true},
		line{loadOf(1, 4*256, 2), told(7, 4), true},
		line{loadOf(1, 5*256, 2), no(api.ErrNone), true},
		line{munmapOf(1, 0, 1024), ok, true},
		line{loadOf(1, 0, 1), no(api.ErrNone), true},
		line{mmapOf(1, 0, 1024, 1), ok, true},
		line{loadOf(1, 0, 2), told(0, 0), true},
		line{loadOf(1, 768, 2), told(0, 0), true},
		line{getPolicyOf(1, 3), ok, true},
		line{munmapOf(1, 1000, 25), no(api.ErrArg), true},
		line{munmapOf(1, 1000, 25), ok, false},
	)
}

func TestP20_1Mprotect(t *testing.T) {
	x := made(t, 1)
	x.run(t, "nobody", line{mprotectOf(1, 0, 1, 1), ok, false}, line{mprotectOf(1, 0, 1, 1), no(api.ErrNone), true})
	x.done(t, spawning)
	x.done(t, mmapOf(1, 2, 4, 3))
	x.done(t, storeOf(1, 3*256, 9))
	x.done(t, mbindOf(1, 3, 1, 3, 1))
	x.run(t, "in part",
		line{mprotectOf(1, 1, 2, 1), no(api.ErrNone), true},
		line{mprotectOf(1, 1, 2, 1), ok, false},
		line{mprotectOf(1, 5, 2, 1), no(api.ErrNone), true},
		line{mprotectOf(1, 0, 1024, 1), no(api.ErrNone), true},
		line{mprotectOf(1, 2, 4, 0), no(api.ErrArg), true},
		line{mprotectOf(1, 2, 4, 4), no(api.ErrArg), true},
	)
	x.run(t, "mapped",
		line{mprotectOf(1, 2, 4, 1), value(1), false},
		line{mprotectOf(1, 2, 4, 1), told(1), false},
		line{mprotectOf(1, 2, 4, 1), no(api.ErrNone), false},
		line{mprotectOf(1, 2, 4, 1), no(api.ErrFull), false},
		line{mprotectOf(1, 2, 4, 1), no(api.ErrMemory), false},
		line{mprotectOf(1, 2, 4, 1), no(api.ErrIO), false},
		line{mprotectOf(1, 3, 1, 1), ok, true},
		line{storeOf(1, 3*256, 1), no(api.ErrRights), true},
		line{loadOf(1, 3*256, 2), told(9, 0), true},
		line{storeOf(1, 4*256, 1), ok, true},
		line{getPolicyOf(1, 3), value(769), true},
		line{mprotectOf(1, 2, 4, 2), ok, true},
		line{loadOf(1, 3*256, 1), no(api.ErrRights), true},
		line{storeOf(1, 3*256+1, 8), ok, true},
		line{mprotectOf(1, 3, 1, 3), ok, true},
		line{loadOf(1, 3*256, 2), told(9, 8), true},
	)
}

// Mlock and munlock tell whether all is mapped, and nothing becomes of them: pages that are locked may be unmapped.
func TestP20_1Mlock(t *testing.T) {
	x := made(t, 1)
	for _, of := range []func(pid, page, count int) api.Call{mlockOf, munlockOf} {
		isLock := of(1, 0, 1).Kind == mlock
		x.run(t, "nobody",
			line{of(1, 0, 1), ok, false},
			line{of(1, 0, 1), no(api.ErrNone), true},
			line{of(0, 0, 1), no(api.ErrNone), true},
			line{of(0, 0, 0), no(api.ErrArg), true},
			line{of(0, 0, 0), no(api.ErrNone), false},
		)
		x.done(t, spawning)
		x.run(t, "nothing mapped",
			line{of(1, 0, 1), ok, false},
			line{of(1, 0, 1), no(api.ErrNone), true},
			line{of(1, 0, 1024), no(api.ErrNone), true},
		)
		x.done(t, mmapOf(1, 3, 4, 1))
		x.done(t, mmapOf(1, 1023, 1, 2))
		x.run(t, "mapped",
			line{of(1, 3, 4), no(api.ErrNone), false},
			line{of(1, 3, 4), value(1), false},
			line{of(1, 3, 4), told(0), false},
			line{of(1, 3, 4), no(api.ErrRights), false},
			line{of(1, 3, 4), no(api.ErrMemory), isLock},
			line{of(1, 3, 4), no(api.ErrIO), isLock},
			line{of(1, 3, 4), api.Result{Errno: api.ErrIO, Value: 1}, false},
			line{of(1, 3, 4), api.Result{Errno: api.ErrMemory, Bytes: []byte{1}}, false},
			line{of(1, 3, 4), ok, true},
			line{of(1, 3, 4), ok, true},
			line{of(1, 4, 1), ok, true},
			line{of(1, 1023, 1), ok, true},
		)
		x.run(t, "in part",
			line{of(1, 2, 2), no(api.ErrNone), true},
			line{of(1, 2, 2), ok, false},
			line{of(1, 3, 5), no(api.ErrNone), true},
			line{of(1, 3, 5), ok, false},
			line{of(1, 0, 1024), no(api.ErrNone), true},
			line{of(1, 1023, 2), no(api.ErrArg), true},
			line{of(1, 3, 5), no(api.ErrIO), isLock},
		)
		x.run(t, "gone",
			line{munmapOf(1, 3, 4), ok, true},
			line{of(1, 3, 4), no(api.ErrNone), true},
			line{exitOf(1), ok, true},
			line{of(1, 1023, 1), no(api.ErrNone), true},
			line{of(1, 1023, 1), no(api.ErrMemory), isLock},
		)
	}
}

func TestP20_1LoadAndStore(t *testing.T) {
	x := made(t, 1)
	x.run(t, "nobody",
		line{loadOf(1, 0, 1), told(0), false},
		line{loadOf(1, 0, 1), no(api.ErrNone), true},
		line{storeOf(1, 0, 1), ok, false},
		line{storeOf(1, 0, 1), no(api.ErrNone), true},
	)
	x.done(t, spawning)
	x.run(t, "not mapped",
		line{loadOf(1, 0, 1), told(0), false},
		line{loadOf(1, 0, 1), no(api.ErrRights), false},
		line{loadOf(1, 0, 1), no(api.ErrNone), true},
		line{storeOf(1, 0, 1), ok, false},
		line{storeOf(1, 0, 1), no(api.ErrNone), true},
	)
	x.done(t, mmapOf(1, 0, 1, 3))
	x.done(t, mmapOf(1, 1, 1, 1))
	x.done(t, mmapOf(1, 2, 1, 2))
	x.done(t, mmapOf(1, 1023, 1, 3))
	x.run(t, "the first and the last byte",
		line{loadOf(1, 0, 1), told(0), true},
		line{loadOf(1, 255, 1), told(0), true},
		line{storeOf(1, 255, 5), ok, true},
		line{storeOf(1, 0, 4), ok, true},
		line{loadOf(1, 255, 1), told(0), false},
		line{loadOf(1, 255, 1), told(5), true},
		line{loadOf(1, 0, 1), told(4), true},
		line{loadOf(1, 256, 1), told(0), true},
		line{storeOf(1, 1023*256, 6), ok, true},
		line{storeOf(1, space-1, 7), ok, true},
		line{loadOf(1, space-1, 1), told(7), true},
		line{loadOf(1, 1023*256, 1), told(6), true},
		line{loadOf(1, space-256, 2), told(6, 0), true},
		line{loadOf(1, space, 1), no(api.ErrArg), true},
		line{loadOf(1, space, 1), no(api.ErrNone), false},
	)
	x.run(t, "eight bytes",
		line{storeOf(1, 248, numbered(1, 8)...), ok, true},
		line{loadOf(1, 248, 8), told(numbered(1, 8)...), true},
		line{loadOf(1, 248, 8), told(numbered(1, 7)...), false},
		line{loadOf(1, 248, 7), told(numbered(1, 8)...), false},
		line{loadOf(1, 247, 8), told(0, 1, 2, 3, 4, 5, 6, 7), true},
		line{loadOf(1, 249, 8), no(api.ErrArg), true},
		line{storeOf(1, 249, numbered(1, 8)...), ok, false},
		line{storeOf(1, 249, numbered(1, 8)...), no(api.ErrArg), true},
		line{loadOf(1, 250, 3), told(3, 4, 5), true},
		line{storeOf(1, 251, 99), ok, true},
		line{loadOf(1, 248, 8), told(1, 2, 3, 99, 5, 6, 7, 8), true},
	)
	x.run(t, "without the right",
		line{storeOf(1, 256, 1), ok, false},
		line{storeOf(1, 256, 1), no(api.ErrNone), false},
		line{storeOf(1, 256, 1), no(api.ErrRights), true},
		line{storeOf(1, 511, 1), no(api.ErrRights), true},
		line{loadOf(1, 256, 1), told(1), false},
		line{loadOf(1, 256, 1), told(0), true},
		line{loadOf(1, 256, 1), no(api.ErrRights), false},
		line{loadOf(1, 512, 1), told(0), false},
		line{loadOf(1, 512, 1), no(api.ErrRights), true},
		line{loadOf(1, 767, 1), no(api.ErrRights), true},
		line{storeOf(1, 512, 1), no(api.ErrRights), false},
		line{storeOf(1, 512, 1), ok, true},
		line{loadOf(1, 768, 1), no(api.ErrRights), false},
		line{loadOf(1, 768, 1), no(api.ErrNone), true},
	)
	x.run(t, "other answers",
		line{loadOf(1, 0, 2), ok, false},
		line{loadOf(1, 0, 2), told(4), false},
		line{loadOf(1, 0, 2), told(4, 0, 0), false},
		line{loadOf(1, 0, 2), api.Result{Value: 4, Bytes: []byte{4, 0}}, false},
		line{loadOf(1, 0, 2), api.Result{Errno: api.ErrIO, Bytes: []byte{4, 0}}, false},
		line{loadOf(1, 0, 2), told(4, 0), true},
		line{storeOf(1, 0, 7), value(7), false},
		line{storeOf(1, 0, 7), told(7), false},
		line{storeOf(1, 0, 7), api.Result{Errno: api.ErrMemory, Value: 1}, false},
		line{storeOf(1, 256, 7), api.Result{Errno: api.ErrRights, Value: 1}, false},
	)
	x.run(t, "failures",
		line{storeOf(1, 0, 7), no(api.ErrMemory), true},
		line{storeOf(1, 0, 7), no(api.ErrIO), true},
		line{loadOf(1, 0, 2), no(api.ErrMemory), true},
		line{loadOf(1, 0, 2), no(api.ErrIO), true},
		line{loadOf(1, 0, 2), told(7, 0), false},
		line{loadOf(1, 0, 2), told(4, 0), true},
	)
}

// What was stored is loaded till it is stored again, or unmapped; no other page and no other process has it.
func TestP20_1ProcessesApart(t *testing.T) {
	x := made(t, 8)
	for range 8 {
		pid := int(x.done(t, spawning))
		x.done(t, mmapOf(pid, 0, 2, 3))
		x.done(t, storeOf(pid, 100, byte(pid), 50))
		x.done(t, policyOf(pid, 2, 1<<(pid-1)))
		x.done(t, mbindOf(pid, 1, 1, 3, 255>>(pid-1)))
	}
	for pid := 1; pid <= 8; pid++ {
		x.run(t, "apart",
			line{loadOf(pid, 100, 2), told(byte(pid), 50), true},
			line{loadOf(pid, 100, 2), told(byte(pid+1), 50), false},
			line{loadOf(pid, 356, 2), told(0, 0), true},
			line{getPolicyOf(pid, 0), value(512 + 1<<(pid-1)), true},
			line{getPolicyOf(pid, 1), value(768 + 255>>(pid-1)), true},
		)
	}
	x.done(t, munmapOf(3, 0, 2))
	x.done(t, exitOf(5))
	x.done(t, storeOf(4, 100, 77))
	x.done(t, mprotectOf(6, 0, 2, 1))
	for pid, want := range map[int]api.Result{1: told(1, 50), 2: told(2, 50), 3: no(api.ErrNone), 4: told(77, 50), 5: no(api.ErrNone), 6: told(6, 50), 7: told(7, 50), 8: told(8, 50)} {
		x.run(t, "still apart", line{loadOf(pid, 100, 2), want, true})
	}
}

func TestP20_1Kmalloc(t *testing.T) {
	x := made(t, 1)
	x.run(t, "new",
		line{kmallocOf(8), ok, false},
		line{kmallocOf(8), no(api.ErrHandle), false},
		line{kmallocOf(8), no(api.ErrFull), false},
		line{kmallocOf(8), no(api.ErrIO), false},
		line{kmallocOf(8), api.Result{Value: 5, Bytes: []byte{0}}, false},
		line{kmallocOf(8), api.Result{Value: 5, Bytes: make([]byte, 8)}, false},
		line{kmallocOf(8), api.Result{Errno: api.ErrMemory, Value: 5}, false},
		line{kmallocOf(8), no(api.ErrMemory), true},
		line{kmallocOf(8), value(5), true},
		line{kmallocOf(8), value(5), false},
		line{kmallocOf(9), value(5), false},
	)
	x.run(t, "freed",
		line{kfreeOf(5), ok, true},
		line{kmallocOf(8), value(5), false},
		line{kmallocOf(1), value(5), false},
		line{kmallocOf(8), value(4), true},
		line{kmallocOf(8), value(math.MaxUint64), true},
		line{kmallocOf(8), value(math.MaxUint64), false},
		line{kmallocOf(8), value(1 << 63), true},
		line{kmallocOf(8), value(1), true},
	)
	x.run(t, "not told",
		line{kfreeOf(6), no(api.ErrHandle), true},
		line{kmallocOf(8), api.Result{Errno: api.ErrNone, Value: 6}, false},
		line{kmallocOf(0), value(6), false},
		line{kmallocOf(0), no(api.ErrArg), true},
		line{kmallocOf(129), value(6), false},
		line{kmallocOf(129), no(api.ErrArg), true},
		line{kmallocOf(128), value(6), true},
	)
	for size := 1; size <= 128; size++ {
		h := uint64(1000 + size)
		x.hold(t, kmallocOf(size), value(h))
		if b, ok := x.m.Object(h); len(b) != size || !ok {
			t.Errorf("an object of %d: %d bytes, %t", size, len(b), ok)
		}
	}
	x.want(t, "all sizes")
}

func TestP20_1Kfree(t *testing.T) {
	x := made(t, 1)
	for _, h := range handles {
		x.run(t, "never told",
			line{kfreeOf(h), ok, false},
			line{kfreeOf(h), no(api.ErrNone), false},
			line{kfreeOf(h), no(api.ErrArg), false},
			line{kfreeOf(h), no(api.ErrMemory), false},
			line{kfreeOf(h), api.Result{Errno: api.ErrHandle, Value: h | 1}, false},
			line{kfreeOf(h), no(api.ErrHandle), true},
		)
	}
	for _, h := range handles[1:] {
		x.run(t, "there", line{kmallocOf(3), value(h), true}, line{pokeOf(h, 2, 9), ok, true})
	}
	for _, h := range handles[1:] {
		x.run(t, "freed",
			line{kfreeOf(h), no(api.ErrHandle), false},
			line{kfreeOf(h), value(1), false},
			line{kfreeOf(h), told(0), false},
			line{kfreeOf(h), no(api.ErrMemory), false},
			line{kfreeOf(h), no(api.ErrIO), false},
			line{kfreeOf(h), ok, true},
			line{kfreeOf(h), ok, false},
			line{kfreeOf(h), no(api.ErrHandle), true},
			line{peekOf(h, 2, 1), told(9), false},
			line{peekOf(h, 2, 1), no(api.ErrHandle), true},
			line{pokeOf(h, 2, 1), no(api.ErrHandle), true},
			line{kmallocOf(3), value(h), false},
		)
	}
}

func TestP20_1PeekAndPoke(t *testing.T) {
	x := made(t, 1)
	x.run(t, "no handle",
		line{peekOf(7, 0, 1), told(0), false},
		line{peekOf(7, 0, 1), no(api.ErrArg), false},
		line{peekOf(7, 0, 1), no(api.ErrHandle), true},
		line{pokeOf(7, 0, 1), ok, false},
		line{pokeOf(7, 0, 1), no(api.ErrHandle), true},
		line{peekOf(0, 0, 1), no(api.ErrHandle), true},
		line{pokeOf(0, 0, 1), no(api.ErrHandle), true},
		line{peekOf(7, 121, 8), no(api.ErrHandle), false},
		line{peekOf(7, 121, 8), no(api.ErrArg), true},
		line{pokeOf(7, 121, numbered(1, 8)...), no(api.ErrArg), true},
		line{peekOf(7, 120, 8), no(api.ErrHandle), true},
	)
	x.run(t, "one byte",
		line{kmallocOf(1), value(7), true},
		line{peekOf(7, 0, 1), told(0), true},
		line{peekOf(7, 0, 1), told(1), false},
		line{pokeOf(7, 0, 3), ok, true},
		line{peekOf(7, 0, 1), told(3), true},
		line{peekOf(7, 0, 2), told(3, 0), false},
		line{peekOf(7, 0, 2), no(api.ErrArg), true},
		line{peekOf(7, 0, 2), no(api.ErrHandle), false},
		line{peekOf(7, 1, 1), no(api.ErrArg), true},
		line{peekOf(7, 1, 1), told(0), false},
		line{pokeOf(7, 0, 4, 5), ok, false},
		line{pokeOf(7, 0, 4, 5), no(api.ErrArg), true},
		line{pokeOf(7, 1, 4), ok, false},
		line{pokeOf(7, 1, 4), no(api.ErrArg), true},
		line{peekOf(7, 0, 1), told(3), true},
	)
	x.run(t, "the greatest",
		line{kmallocOf(128), value(8), true},
		line{peekOf(8, 120, 8), told(make([]byte, 8)...), true},
		line{pokeOf(8, 120, numbered(10, 8)...), ok, true},
		line{peekOf(8, 120, 8), told(numbered(10, 8)...), true},
		line{peekOf(8, 127, 1), told(17), true},
		line{peekOf(8, 119, 2), told(0, 10), true},
		line{peekOf(8, 121, 8), no(api.ErrArg), true},
		line{peekOf(8, 128, 1), no(api.ErrArg), true},
		line{pokeOf(8, 0, 1), ok, true},
		line{pokeOf(8, 127, 2), ok, true},
		line{pokeOf(8, 128, 2), no(api.ErrArg), true},
		line{peekOf(8, 0, 2), told(1, 0), true},
		line{peekOf(8, 126, 2), told(16, 2), true},
		line{peekOf(7, 0, 1), told(3), true},
	)
	x.run(t, "between",
		line{kmallocOf(20), value(9), true},
		line{pokeOf(9, 12, numbered(1, 8)...), ok, true},
		line{pokeOf(9, 13, numbered(1, 8)...), no(api.ErrArg), true},
		line{peekOf(9, 13, 7), told(numbered(2, 7)...), true},
		line{peekOf(9, 13, 8), no(api.ErrArg), true},
		line{peekOf(9, 20, 1), no(api.ErrArg), true},
		line{peekOf(9, 19, 1), told(8), true},
		line{pokeOf(9, 19, 5), ok, true},
		line{peekOf(9, 18, 2), told(7, 5), true},
	)
	x.run(t, "other answers",
		line{peekOf(9, 18, 2), ok, false},
		line{peekOf(9, 18, 2), told(7), false},
		line{peekOf(9, 18, 2), told(7, 5, 0), false},
		line{peekOf(9, 18, 2), api.Result{Value: 1, Bytes: []byte{7, 5}}, false},
		line{peekOf(9, 18, 2), no(api.ErrMemory), false},
		line{peekOf(9, 18, 2), no(api.ErrIO), false},
		line{peekOf(9, 20, 1), api.Result{Errno: api.ErrArg, Value: 1}, false},
		line{peekOf(9, 20, 1), api.Result{Errno: api.ErrArg, Bytes: []byte{0}}, false},
		line{pokeOf(9, 0, 1), value(1), false},
		line{pokeOf(9, 0, 1), told(1), false},
		line{pokeOf(9, 0, 1), no(api.ErrMemory), false},
		line{pokeOf(9, 0, 1), no(api.ErrIO), false},
		line{pokeOf(9, 0, 1), no(api.ErrHandle), false},
		line{peekOf(9, 0, 1), told(0), true},
		line{kfreeOf(9), ok, true},
		line{peekOf(9, 20, 1), no(api.ErrArg), false},
		line{peekOf(9, 20, 1), no(api.ErrHandle), true},
	)
}

// A page's own policy goes ahead of the process', stays when that is set, and goes with the page.
func TestP20_1Policies(t *testing.T) {
	x := made(t, 8)
	x.run(t, "nobody",
		line{policyOf(1, 2, 1), ok, false},
		line{policyOf(1, 2, 1), no(api.ErrNone), true},
		line{mbindOf(1, 0, 1, 2, 1), no(api.ErrNone), true},
		line{getPolicyOf(1, 0), ok, false},
		line{getPolicyOf(1, 0), no(api.ErrNone), true},
		line{policyOf(1, 0, 1), no(api.ErrNone), false},
		line{policyOf(1, 0, 1), no(api.ErrArg), true},
	)
	x.done(t, spawning)
	x.run(t, "new",
		line{getPolicyOf(1, 0), ok, true},
		line{getPolicyOf(1, 1023), ok, true},
		line{getPolicyOf(1, 0), value(1), false},
		line{getPolicyOf(1, 0), no(api.ErrNone), false},
		line{getPolicyOf(1, 1024), no(api.ErrArg), true},
		line{getPolicyOf(1, -1), no(api.ErrArg), true},
	)
	x.run(t, "the process'",
		line{policyOf(1, 1, 128), value(384), false},
		line{policyOf(1, 1, 128), told(0), false},
		line{policyOf(1, 1, 128), no(api.ErrNone), false},
		line{policyOf(1, 1, 128), no(api.ErrMemory), false},
		line{policyOf(1, 1, 128), no(api.ErrIO), false},
		line{getPolicyOf(1, 0), ok, true},
		line{policyOf(1, 1, 128), ok, true},
		line{getPolicyOf(1, 0), value(384), true},
		line{getPolicyOf(1, 0), ok, false},
		line{getPolicyOf(1, 1023), value(384), true},
		line{getPolicyOf(1, 0), api.Result{Value: 384, Bytes: []byte{0}}, false},
		line{getPolicyOf(1, 0), value(385), false},
		line{getPolicyOf(1, 0), value(383), false},
		line{getPolicyOf(1, 0), no(api.ErrMemory), false},
		line{getPolicyOf(1, 0), api.Result{Errno: api.ErrNone, Value: 384}, false},
	)
	x.run(t, "not mapped",
		line{mbindOf(1, 0, 1, 2, 255), ok, false},
		line{mbindOf(1, 0, 1, 2, 255), no(api.ErrNone), true},
		line{mmapOf(1, 2, 4, 1), ok, true},
		line{mbindOf(1, 1, 2, 2, 255), no(api.ErrNone), true},
		line{mbindOf(1, 5, 2, 2, 255), no(api.ErrNone), true},
		line{mbindOf(1, 0, 1024, 2, 255), no(api.ErrNone), true},
		line{getPolicyOf(1, 2), value(384), true},
		line{getPolicyOf(1, 5), value(384), true},
	)
	x.run(t, "a page's",
		line{mbindOf(1, 3, 2, 2, 255), value(767), false},
		line{mbindOf(1, 3, 2, 2, 255), told(0), false},
		line{mbindOf(1, 3, 2, 2, 255), no(api.ErrNone), false},
		line{mbindOf(1, 3, 2, 2, 255), no(api.ErrMemory), false},
		line{mbindOf(1, 3, 2, 2, 255), no(api.ErrIO), false},
		line{mbindOf(1, 3, 2, 2, 255), ok, true},
		line{getPolicyOf(1, 2), value(384), true},
		line{getPolicyOf(1, 3), value(767), true},
		line{getPolicyOf(1, 4), value(767), true},
		line{getPolicyOf(1, 5), value(384), true},
		line{getPolicyOf(1, 3), value(384), false},
		line{mbindOf(1, 4, 1, 3, 5), ok, true},
		line{getPolicyOf(1, 4), value(773), true},
		line{getPolicyOf(1, 3), value(767), true},
	)
	x.run(t, "both",
		line{policyOf(1, 0, 0), ok, true},
		line{getPolicyOf(1, 2), ok, true},
		line{getPolicyOf(1, 3), value(767), true},
		line{mbindOf(1, 3, 1, 0, 0), ok, true},
		line{policyOf(1, 3, 6), ok, true},
		line{getPolicyOf(1, 3), ok, true},
		line{getPolicyOf(1, 3), value(774), false},
		line{getPolicyOf(1, 2), value(774), true},
		line{getPolicyOf(1, 1), value(774), true},
		line{mprotectOf(1, 2, 4, 2), ok, true},
		line{getPolicyOf(1, 4), value(773), true},
	)
	x.run(t, "gone with the page",
		line{munmapOf(1, 4, 1), ok, true},
		line{getPolicyOf(1, 4), value(773), false},
		line{getPolicyOf(1, 4), value(774), true},
		line{mmapOf(1, 4, 1, 3), ok, true},
		line{getPolicyOf(1, 4), value(774), true},
		line{munmapOf(1, 0, 1024), ok, true},
		line{getPolicyOf(1, 3), value(774), true},
		line{mbindOf(1, 3, 1, 2, 1), no(api.ErrNone), true},
	)
}

func TestP20_1Where(t *testing.T) {
	for nodes := 1; nodes <= 8; nodes++ {
		x := made(t, nodes)
		x.run(t, "nobody",
			line{whereOf(1, 0), ok, false},
			line{whereOf(1, 0), no(api.ErrNone), true},
			line{whereOf(1, 1024), no(api.ErrNone), false},
			line{whereOf(1, 1024), no(api.ErrArg), true},
		)
		x.done(t, spawning)
		x.run(t, "not mapped",
			line{whereOf(1, 0), ok, false},
			line{whereOf(1, 0), value(1), false},
			line{whereOf(1, 0), no(api.ErrNone), true},
			line{mmapOf(1, 1023, 1, 2), ok, true},
			line{whereOf(1, 1022), no(api.ErrNone), true},
			line{whereOf(1, 1022), ok, false},
		)
		for n := range uint64(12) {
			x.run(t, "mapped",
				line{whereOf(1, 1023), value(n), n <= uint64(nodes)},
				line{whereOf(1, 1023), api.Result{Value: n, Bytes: []byte{0}}, false},
				line{whereOf(1, 1023), api.Result{Errno: api.ErrNone, Value: n + 1}, false},
			)
		}
		x.run(t, "mapped",
			line{whereOf(1, 1023), value(math.MaxUint64), false},
			line{whereOf(1, 1023), value(1 << 63), false},
			line{whereOf(1, 1023), value(1 << 32), false},
			line{whereOf(1, 1023), no(api.ErrNone), false},
			line{whereOf(1, 1023), no(api.ErrMemory), false},
			line{whereOf(1, 1023), no(api.ErrIO), false},
			line{whereOf(1, 1023), told(1), false},
		)
	}
}

func TestP20_1MovePages(t *testing.T) {
	x := made(t, 8)
	x.run(t, "nobody",
		line{movePagesOf(1, 0, 1, 7), ok, false},
		line{movePagesOf(1, 0, 1, 7), no(api.ErrNone), true},
		line{movePagesOf(1, 0, 1, 8), no(api.ErrNone), false},
		line{movePagesOf(1, 0, 1, 8), no(api.ErrArg), true},
		line{movePagesOf(1, 0, 1, 7), no(api.ErrMemory), true},
	)
	x.done(t, spawning)
	x.done(t, mmapOf(1, 2, 3, 3))
	x.run(t, "in part",
		line{movePagesOf(1, 0, 1, 0), no(api.ErrNone), true},
		line{movePagesOf(1, 1, 2, 0), no(api.ErrNone), true},
		line{movePagesOf(1, 1, 2, 0), ok, false},
		line{movePagesOf(1, 4, 2, 0), no(api.ErrNone), true},
		line{movePagesOf(1, 0, 1024, 0), no(api.ErrNone), true},
	)
	x.run(t, "mapped",
		line{movePagesOf(1, 2, 3, 7), no(api.ErrNone), false},
		line{movePagesOf(1, 2, 3, 7), value(1), false},
		line{movePagesOf(1, 2, 3, 7), told(0), false},
		line{movePagesOf(1, 2, 3, 7), no(api.ErrIO), false},
		line{movePagesOf(1, 2, 3, 7), no(api.ErrMemory), true},
		line{movePagesOf(1, 2, 3, 7), api.Result{Errno: api.ErrMemory, Value: 1}, false},
		line{movePagesOf(1, 2, 3, 7), ok, true},
		line{movePagesOf(1, 3, 1, 0), ok, true},
		line{whereOf(1, 3), value(8), true},
	)
}

func TestP20_1Daemons(t *testing.T) {
	for _, x := range []both{made(t, 1), made(t, 8)} {
		last := x.p.c.Nodes - 1
		for _, there := range []bool{false, true} {
			if there {
				x.done(t, spawning)
				x.done(t, mmapOf(1, 0, 2, 3))
				x.done(t, kmallocOf(5))
			}
			for _, call := range []api.Call{{Kind: kswapd}, {Kind: compact}, {Kind: reap}, {Kind: kswapd, Node: last}, {Kind: compact, Node: last}} {
				for _, e := range errnos {
					x.run(t, "daemons", line{call, no(e), false}, line{call, api.Result{Errno: e, Value: 1}, false})
				}
				x.run(t, "daemons",
					line{call, value(1), false},
					line{call, told(0), false},
					line{call, ok, true},
					line{call, told(), true},
				)
			}
			for _, kind := range []api.CallKind{kswapd, compact} {
				for _, node := range []int{-1, last + 1, math.MinInt, math.MaxInt} {
					call := api.Call{Kind: kind, Node: node}
					x.run(t, "no node",
						line{call, ok, false},
						line{call, no(api.ErrArg), true},
						line{call, no(api.ErrNone), false},
						line{call, no(api.ErrMemory), false},
					)
				}
			}
		}
	}
}
