package model_test

import (
	"testing"

	"byre/api"
)

// walk is a machine that goes through many calls, by chance.
type walk struct {
	both
	c      chance
	pids   int   // of which processes most calls are
	places []int // pages of which most calls are
	most   int   // pages of most ranges
	rare   int   // one range of so many is of others, and one exit of so many is called
	told   []uint64
}

func (w *walk) pid() int {
	if w.c.below(20) == 0 {
		return oneOf(&w.c, pidEdges)
	}
	return 1 + w.c.below(w.pids)
}

// pageRange is pages of which the first one is one of the walk's.
func (w *walk) pageRange() (page, count int) {
	switch w.c.below(w.rare) {
	case 0:
		return 0, pages
	case 1:
		return oneOf(&w.c, pageEdges), 1 + w.c.below(2)
	case 2:
		page = oneOf(&w.c, w.places)
		return page, pages - page + w.c.below(2)
	}
	return oneOf(&w.c, w.places), 1 + w.c.below(w.most)
}

// addr is where so many bytes lie, mostly within a page.
func (w *walk) addr(size int) int {
	if w.c.below(30) == 0 {
		return oneOf(&w.c, addrEdges)
	}
	return oneOf(&w.c, w.places)*pageBytes + oneOf(&w.c, []int{0, 0, 1, 100, 101, 248, 255, pageBytes - size, pageBytes - size})
}

func (w *walk) handle() uint64 {
	if len(w.told) == 0 || w.c.below(10) == 0 {
		return oneOf(&w.c, handles)
	}
	return oneOf(&w.c, w.told)
}

func (w *walk) policy() api.Policy {
	p := api.Policy{Kind: api.PolicyKind(w.c.below(4)), Mask: 1 << w.c.below(w.p.c.Nodes)}
	if p.Kind >= 2 {
		p.Mask |= uint8(w.c.below(1 << w.p.c.Nodes))
	}
	if p.Kind == 0 && w.c.below(8) > 0 {
		p.Mask = 0
	}
	return p
}

// call is the next call.
func (w *walk) call() api.Call {
	kind := api.CallKind(1 + w.c.below(21))
	if kind == exit && w.c.below(w.rare) > 6 {
		kind = spawn
	}
	size := 1 + w.c.below(8)
	page, count := w.pageRange()
	rights := uint8(1 + w.c.below(3))
	data := numbered(byte(w.c.below(256)), size)
	switch kind {
	case exit:
		return exitOf(w.pid())
	case mmap:
		return mmapOf(w.pid(), page, count, rights)
	case munmap:
		return munmapOf(w.pid(), page, count)
	case mprotect:
		return mprotectOf(w.pid(), page, count, rights)
	case mlock, munlock:
		return api.Call{Kind: kind, Pid: w.pid(), Page: page, Count: count}
	case load:
		return loadOf(w.pid(), w.addr(size), size)
	case store:
		return storeOf(w.pid(), w.addr(size), data...)
	case kmalloc:
		return kmallocOf(1 + w.c.below(129))
	case kfree:
		return kfreeOf(w.handle())
	case peek:
		return peekOf(w.handle(), w.c.below(130-size), size)
	case poke:
		return pokeOf(w.handle(), w.c.below(130-size), data...)
	case setPolicy:
		return api.Call{Kind: kind, Pid: w.pid(), Policy: w.policy()}
	case mbind:
		return api.Call{Kind: kind, Pid: w.pid(), Page: page, Count: count, Policy: w.policy()}
	case getPolicy, where:
		return api.Call{Kind: kind, Pid: w.pid(), Page: page}
	case movePages:
		return movePagesOf(w.pid(), page, count, w.c.below(w.p.c.Nodes+1))
	case kswapd, compact:
		return api.Call{Kind: kind, Node: w.c.below(w.p.c.Nodes + 1)}
	}
	return api.Call{Kind: kind} // spawn, reap
}

// fresh is a handle that never was one.
func (w *walk) fresh() uint64 {
	for {
		h := uint64(1 + w.c.below(1<<uint(2+w.c.below(20))))
		if !w.p.ever[h] {
			return h
		}
	}
}

// step has the next call done: answers that may not be change nothing, and one that may be is there each time.
func (w *walk) step(t *testing.T, tries bool) (api.CallKind, api.Errno) {
	t.Helper()
	call, next := w.call(), w.fresh()
	if tries {
		if w.tryAnswers(t, call, next) == 0 {
			t.Errorf("%+v may not be answered", call)
		}
		w.want(t, "answers that may not be")
	}
	r := w.p.right(call, next)
	if call.Kind == where && r.Errno == api.OK {
		r.Value = uint64(w.c.below(w.p.c.Nodes + 1))
	}
	if !w.hold(t, call, r) {
		t.Fatalf("%+v, %+v may not be", call, r)
	}
	if call.Kind == kmalloc && r.Errno == api.OK {
		w.told = append(w.told, next)
	}
	return call.Kind, r.Errno
}

// Whatever is called, by chance: the machine is as the plain one is, and tells no answer that may not be.
func TestP20_1ManyCalls(t *testing.T) {
	full := made(t, 3) // it begins with as many runs as there may be
	full.done(t, spawning)
	var many []int
	for i := range 128 {
		many = append(many, i)
		if i%4 == 0 {
			full.done(t, mmapOf(1, i, 3, uint8(1+i%3)))
		}
	}
	type told struct {
		kind api.CallKind
		e    api.Errno
	}
	counts := map[told]int{}
	for seed, w := range []walk{
		{both: made(t, 1), pids: 2, places: []int{0, 1, 2, 1022, 1023}, most: 3, rare: 40},
		{both: made(t, 8), pids: 8, places: nearPages, most: 3, rare: 40},
		{both: full, pids: 1, places: many, most: 1, rare: 4000},
	} {
		w.c = chance(20 + seed)
		for i := range 3000 {
			kind, e := w.step(t, i%4 == 0)
			counts[told{kind, e}]++
			if i%100 == 0 {
				w.both = w.copied(t)
			}
			if i%10 == 0 {
				w.want(t, "many calls")
			}
		}
		w.wantAll(t, "many calls")
	}
	refusals := map[api.CallKind][]api.Errno{
		spawn: {api.ErrFull}, exit: {api.ErrNone}, mmap: {api.ErrArg, api.ErrNone, api.ErrTwice, api.ErrFull}, munmap: {api.ErrArg, api.ErrNone, api.ErrFull},
		mprotect: {api.ErrArg, api.ErrNone}, mlock: {api.ErrArg, api.ErrNone}, munlock: {api.ErrArg, api.ErrNone},
		load: {api.ErrArg, api.ErrNone, api.ErrRights}, store: {api.ErrArg, api.ErrNone, api.ErrRights}, kmalloc: {api.ErrArg}, kfree: {api.ErrHandle},
		peek: {api.ErrArg, api.ErrHandle}, poke: {api.ErrArg, api.ErrHandle}, setPolicy: {api.ErrArg, api.ErrNone}, mbind: {api.ErrArg, api.ErrNone},
		getPolicy: {api.ErrArg, api.ErrNone}, where: {api.ErrArg, api.ErrNone}, movePages: {api.ErrArg, api.ErrNone}, kswapd: {api.ErrArg}, compact: {api.ErrArg},
	}
	for kind := spawn; kind <= reap; kind++ {
		for _, e := range append([]api.Errno{api.OK}, refusals[kind]...) {
			if n := counts[told{kind, e}]; n < 3 {
				t.Errorf("the kind %d was to be answered %d only %d times", kind, e, n)
			}
		}
	}
}

// Each kind, with answers of all sorts, on machines that are empty, full and between.
func TestP20_1OtherAnswers(t *testing.T) {
	for _, nodes := range []int{1, 2, 8} {
		x := made(t, nodes)
		for _, prepare := range [][]api.Call{
			nil, {spawning}, {mmapOf(1, 1, 2, 3), storeOf(1, 256, 1, 2), kmallocOf(3)}, {mprotectOf(1, 1, 1, 1), policyOf(1, 3, 1), pokeOf(1, 0, 5, 6, 7)},
			{mprotectOf(1, 1, 1, 2), mbindOf(1, 1, 1, 2, 1)},
			{spawning, spawning, spawning, spawning, spawning, spawning, spawning}, {kfreeOf(1)}, {exitOf(1)},
		} {
			for _, call := range prepare {
				x.done(t, call)
			}
			for kind := spawn; kind <= reap; kind++ {
				for _, pid := range []int{0, 1, 2, 8, 9} {
					for _, handle := range []uint64{0, 1, 2} {
						if x.tryAnswers(t, one(kind, pid, handle), 2) == 0 {
							t.Errorf("%+v may not be answered", one(kind, pid, handle))
						}
					}
				}
				x.want(t, "other answers")
			}
		}
	}
}
