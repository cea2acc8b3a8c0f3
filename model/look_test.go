package model_test

import (
	"math"
	"slices"
	"testing"

	"byre/api"
	"byre/model"
)

// some are both with three processes, of which the second one ended, with pages, policies and objects.
func some(t *testing.T) both {
	t.Helper()
	x := made(t, 8)
	for range 3 {
		x.done(t, spawning)
	}
	for _, call := range []api.Call{
		mmapOf(1, 0, 4, 3), mmapOf(1, 1023, 1, 1), mmapOf(2, 0, 8, 3), storeOf(2, 0, 99), mmapOf(3, 1, 2, 2), exitOf(2),
		storeOf(1, 0, 1, 2), storeOf(1, 255, 3), storeOf(1, 512, numbered(10, 8)...), storeOf(3, 300, 7), storeOf(3, 767, 9),
		policyOf(1, 2, 6), mbindOf(1, 2, 2, 3, 255), mbindOf(3, 1, 1, 1, 128),
	} {
		x.done(t, call)
	}
	for _, h := range []uint64{9, math.MaxUint64, 4, 1 << 40, 5} {
		x.run(t, "some objects", line{kmallocOf(int(h%100) + 3), value(h), true}, line{pokeOf(h, 1, byte(h)), ok, true})
	}
	x.done(t, kfreeOf(5))
	return x
}

func TestP20_2Has(t *testing.T) {
	x := made(t, 1)
	for pid := 1; pid <= 8; pid++ {
		wantHas(t, "not yet", x.m, pid, false)
		x.done(t, spawning)
		wantHas(t, "there", x.m, pid, true)
		x.want(t, "Has")
	}
	for _, pid := range []int{8, 3, 1} {
		x.done(t, exitOf(pid))
		wantHas(t, "not any more", x.m, pid, false)
	}
	for _, pid := range []int{math.MinInt, -1, 0, 1, 3, 8, 9, 1<<32 + 2, math.MaxInt} {
		wantHas(t, "not there", x.m, pid, false)
	}
	for _, pid := range []int{2, 4, 5, 6, 7} {
		wantHas(t, "still there", x.m, pid, true)
	}
}

func TestP20_2Rights(t *testing.T) {
	x := some(t)
	for _, c := range []struct {
		pid, page int
		rights    uint8
	}{
		{1, 0, 3}, {1, 3, 3}, {1, 4, 0}, {1, 1022, 0}, {1, 1023, 1}, {1, 1024, 0}, {1, -1, 0}, {1, math.MinInt, 0}, {1, math.MaxInt, 0}, {2, 0, 0}, {3, 0, 0}, {3, 1, 2},
		{3, 2, 2}, {3, 3, 0}, {0, 0, 0}, {9, 0, 0}, {4, 0, 0}, {math.MinInt, 0, 0}, {math.MaxInt, 0, 0},
	} {
		wantRights(t, "by hand", x.m, c.pid, c.page, c.rights, c.rights > 0)
	}
	x.run(t, "turned",
		line{mprotectOf(1, 1, 2, 2), ok, true},
		line{munmapOf(1, 0, 1), ok, true},
		line{munmapOf(1, 1023, 1), ok, true},
	)
	for page, rights := range map[int]uint8{0: 0, 1: 2, 2: 2, 3: 3, 4: 0, 1023: 0} {
		wantRights(t, "turned", x.m, 1, page, rights, rights > 0)
	}
}

// Bytes are told whatever the page's rights are.
func TestP20_2Byte(t *testing.T) {
	x := some(t)
	for _, c := range []struct {
		pid, addr int
		b         byte
		ok        bool
	}{
		{1, 0, 1, true}, {1, 1, 2, true}, {1, 2, 0, true}, {1, 254, 0, true}, {1, 255, 3, true}, {1, 256, 0, true}, {1, 511, 0, true}, {1, 512, 10, true},
		{1, 519, 17, true}, {1, 520, 0, true}, {1, 1023, 0, true}, {1, 1024, 0, false}, {1, 1280, 0, false},
		{1, -1, 0, false}, {1, -255, 0, false}, {1, -256, 0, false}, {1, math.MinInt, 0, false}, {1, space - 1, 0, true}, {1, space - 256, 0, true},
		{1, space - 257, 0, false}, {1, space, 0, false}, {1, math.MaxInt, 0, false},
		{2, 0, 0, false}, {3, 255, 0, false}, {3, 256, 0, true}, {3, 300, 7, true}, {3, 767, 9, true}, {3, 768, 0, false}, {0, 0, 0, false}, {9, 0, 0, false},
		{4, 300, 0, false}, {math.MinInt, 0, 0, false}, {math.MaxInt, 0, 0, false},
	} {
		wantByte(t, "by hand", x.m, c.pid, c.addr, c.b, c.ok)
	}
	x.wantAll(t, "Byte")
}

// Policy tells what a GetPolicy would be answered, of each page, mapped or not.
func TestP20_2Policy(t *testing.T) {
	x := some(t)
	its, bare := api.Policy{Kind: 2, Mask: 6}, api.Policy{}
	for _, c := range []struct {
		pid, page int
		p         api.Policy
		ok        bool
	}{
		{1, 0, its, true}, {1, 1, its, true}, {1, 2, api.Policy{Kind: 3, Mask: 255}, true}, {1, 3, api.Policy{Kind: 3, Mask: 255}, true}, {1, 4, its, true},
		{1, 1023, its, true}, {1, 1024, bare, false}, {1, -1, bare, false}, {1, math.MinInt, bare, false}, {1, math.MaxInt, bare, false},
		{2, 0, bare, false}, {3, 0, bare, true}, {3, 1, api.Policy{Kind: 1, Mask: 128}, true}, {3, 2, bare, true}, {3, 1023, bare, true}, {3, 1024, bare, false},
		{0, 0, bare, false}, {9, 0, bare, false}, {4, 0, bare, false}, {math.MinInt, 0, bare, false}, {math.MaxInt, 0, bare, false},
	} {
		wantPolicy(t, "by hand", x.m, c.pid, c.page, c.p, c.ok)
	}
	for _, pid := range pidEdges {
		for page := range pages {
			if p, ok := x.m.Policy(pid, page); ok && !x.m.Step(getPolicyOf(pid, page), value(256*uint64(p.Kind)+uint64(p.Mask))) {
				t.Errorf("GetPolicy may not tell %v of %d, %d", p, pid, page)
			}
		}
	}
	x.want(t, "GetPolicy")
}

func TestP20_2Objects(t *testing.T) {
	x := made(t, 1)
	if got := x.m.Objects(); len(got) != 0 {
		t.Errorf("Objects of none: %v", got)
	}
	var all []uint64
	for i, h := range []uint64{500, 3, math.MaxUint64, 1, 1 << 63, 499, 1<<63 - 1, 2, 1 << 32, 501} {
		x.run(t, "more", line{kmallocOf(i + 1), value(h), true}, line{pokeOf(h, i, byte(h+1)), ok, true})
		all = append(all, h)
		slices.Sort(all)
		if got := x.m.Objects(); !slices.Equal(got, all) {
			t.Errorf("Objects: %v, not %v", got, all)
		}
	}
	for len(all) > 0 {
		i := len(all) / 2
		x.run(t, "less", line{kfreeOf(all[i]), ok, true})
		all = slices.Delete(all, i, i+1)
		if got := x.m.Objects(); !slices.Equal(got, all) {
			t.Errorf("Objects: %v, not %v", got, all)
		}
	}
}

// What is told is the caller's, and what is handed in stays the caller's: written over, it changes no machine.
func TestP20_2OwnBytes(t *testing.T) {
	x := some(t)
	stored, poked, read := numbered(50, 8), numbered(60, 2), numbered(50, 8)
	x.run(t, "handed in",
		line{storeOf(1, 40, stored...), ok, true},
		line{api.Call{Kind: store, Pid: 3, Addr: 256, Bytes: stored}, ok, true},
		line{api.Call{Kind: poke, Handle: 9, Addr: 0, Bytes: poked}, ok, true},
		line{loadOf(1, 40, 8), api.Result{Bytes: read}, true},
		line{peekOf(9, 0, 2), api.Result{Bytes: poked}, true},
	)
	for _, b := range [][]byte{stored, poked, read} {
		for i := range b {
			b[i] = 0xee
		}
	}
	x.wantAll(t, "bytes that were handed in are written over")
	for _, h := range x.m.Objects() {
		first, _ := x.m.Object(h)
		second, _ := x.m.Object(h)
		for i := range first {
			first[i] = ^first[i]
		}
		_ = append(first[:0], make([]byte, len(first)+1)...)
		if !slices.Equal(second, x.p.objects[h]) {
			t.Errorf("Object(%d): what was told is %x by now", h, second)
		}
	}
	all := x.m.Objects()
	again := x.m.Objects()
	_ = append(all[:0], make([]uint64, len(all))...)
	x.want(t, "what was told is written over")
	if !slices.Equal(again, x.m.Objects()) {
		t.Errorf("Objects: what was told is %v by now", again)
	}
	// What was told stays as it was when something becomes of the machine.
	told, _ := x.m.Object(9)
	x.run(t, "another poke", line{pokeOf(9, 0, 1, 1), ok, true}, line{kfreeOf(4), ok, true})
	if told[0] != 60 || told[1] != 61 || !slices.Equal(again, []uint64{4, 9, 1 << 40, math.MaxUint64}) {
		t.Errorf("what was told is %x, %v by now", told, again)
	}
}

// What is looked at is not changed by it.
func TestP20_2LooksChangeNothing(t *testing.T) {
	x := some(t)
	was := x.m.Copy()
	for range 3 {
		x.wantAll(t, "looks")
		x.m.Same(x.m)
		x.m.Same(nil)
		x.m.Copy()
	}
	wantSame(t, "looks", x.m, was, true)
}

// Two machines that were made so by the same calls, and by others, are the same: bytes that were never stored and noughts that were, what ended and what never was.
func TestP20_2SameOfAlike(t *testing.T) {
	x, y := some(t), some(t)
	wantSame(t, "itself", x.m, x.m, true)
	wantSame(t, "the same calls", x.m, y.m, true)
	wantSame(t, "new ones", made(t, 3).m, made(t, 3).m, true)
	for _, c := range []struct {
		what  string
		calls []api.Call
	}{
		{"noughts", []api.Call{storeOf(1, 300, 0, 0), storeOf(1, 900, 5), storeOf(1, 900, 0)}},
		{"a page that came and went", []api.Call{mmapOf(1, 9, 3, 3), storeOf(1, 9*256, 5), mbindOf(1, 9, 3, 2, 1), munmapOf(1, 10, 1), munmapOf(1, 9, 3)}},
		{"a process that came and went", []api.Call{spawning, mmapOf(2, 0, 9, 3), storeOf(2, 0, 7), policyOf(2, 2, 1), exitOf(2)}},
		{"rights that came and went", []api.Call{mprotectOf(1, 1, 1, 1), mprotectOf(1, 1, 1, 3), mprotectOf(3, 1, 2, 1), mprotectOf(3, 1, 1, 2), mprotectOf(3, 2, 1, 2)}},
		{"an object that came and went", []api.Call{kmallocOf(5), kfreeOf(1)}},
		{"policies that came and went", []api.Call{policyOf(1, 0, 0), policyOf(3, 2, 1), policyOf(1, 2, 6), policyOf(3, 0, 0), mbindOf(1, 3, 1, 2, 1), mbindOf(1, 3, 1, 3, 255)}},
		{"pages mapped one by one", []api.Call{munmapOf(3, 1, 2), mmapOf(3, 2, 1, 2), mmapOf(3, 1, 1, 2), storeOf(3, 300, 7), storeOf(3, 767, 9), mbindOf(3, 1, 1, 1, 128)}},
		{"calls of which nothing becomes", []api.Call{mlockOf(1, 0, 4), munlockOf(1, 0, 4), loadOf(1, 0, 1), peekOf(9, 0, 1), getPolicyOf(1, 0), whereOf(1, 0), movePagesOf(1, 0, 4, 7), {Kind: kswapd}, {Kind: compact}, {Kind: reap}}},
		{"a page's own that is the process'", []api.Call{mbindOf(1, 0, 1, 2, 6)}},
	} {
		z := some(t)
		for _, call := range c.calls {
			z.done(t, call)
		}
		wantSame(t, c.what, x.m, z.m, true)
		z.wantAll(t, c.what)
	}
}

// Each thing that is looked at makes two machines differ, by itself.
func TestP20_2SameOfOthers(t *testing.T) {
	x := some(t)
	for _, c := range []struct {
		what  string
		calls []api.Call
	}{
		{"a process more", []api.Call{spawning}},
		{"the last process", []api.Call{spawning, spawning, spawning, spawning, spawning, spawning, exitOf(2), exitOf(4), exitOf(5), exitOf(6), exitOf(7)}},
		{"a process less", []api.Call{exitOf(3)}}, {"another process", []api.Call{exitOf(3), spawning}}, {"a process anew", []api.Call{exitOf(1), spawning}},
		{"a page more", []api.Call{mmapOf(1, 4, 1, 3)}}, {"a page far away", []api.Call{mmapOf(3, 1023, 1, 1)}}, {"the first page", []api.Call{mmapOf(3, 0, 1, 2)}},
		{"a page less", []api.Call{munmapOf(1, 1, 1)}}, {"the last page less", []api.Call{munmapOf(1, 1023, 1)}},
		{"other rights", []api.Call{mprotectOf(1, 1, 1, 1)}}, {"other rights of the last page", []api.Call{mprotectOf(1, 1023, 1, 3)}}, {"other rights of all", []api.Call{mprotectOf(3, 1, 2, 3)}},
		{"the first byte", []api.Call{storeOf(1, 0, 9)}}, {"the last byte of a page", []api.Call{storeOf(1, 255, 4)}},
		{"a byte of noughts", []api.Call{storeOf(1, 400, 1)}}, {"a byte that is nought now", []api.Call{storeOf(1, 512, 0)}},
		{"another process' byte", []api.Call{storeOf(3, 767, 8)}}, {"a last byte", []api.Call{storeOf(1, 1023, 255)}},
		{"the process' policy", []api.Call{policyOf(1, 2, 7)}}, {"its kind", []api.Call{policyOf(1, 3, 6)}}, {"another process' policy", []api.Call{policyOf(3, 1, 1)}},
		{"a page's policy", []api.Call{mbindOf(1, 2, 1, 3, 254)}}, {"a page's policy more", []api.Call{mbindOf(1, 0, 1, 3, 6)}},
		{"the last page's policy", []api.Call{mbindOf(1, 1023, 1, 0, 0)}}, {"a page's policy less", []api.Call{munmapOf(3, 1, 1), mmapOf(3, 1, 1, 2), storeOf(3, 300, 7)}},
		{"an object more", []api.Call{kmallocOf(1)}}, {"an object less", []api.Call{kfreeOf(4)}}, {"the greatest handle less", []api.Call{kfreeOf(math.MaxUint64)}},
		{"the first byte of an object", []api.Call{pokeOf(9, 0, 1)}}, {"the last byte of an object", []api.Call{pokeOf(9, 11, 1)}},
	} {
		y := some(t)
		for _, call := range c.calls {
			y.done(t, call)
		}
		wantSame(t, c.what, x.m, y.m, false)
		wantSame(t, c.what, y.m, y.m, true)
		wantSame(t, c.what, y.m, y.m.Copy(), true)
	}
	a, b, c := made(t, 1), made(t, 1), made(t, 1)
	a.hold(t, kmallocOf(8), value(1))
	b.hold(t, kmallocOf(9), value(1))
	c.hold(t, kmallocOf(8), value(2))
	wantSame(t, "another size", a.m, b.m, false)
	wantSame(t, "another handle", a.m, c.m, false)
	wantSame(t, "nothing", a.m, made(t, 1).m, false)
}

// Whatever is done to a copy, the first one is as it was, and the other way round; so with a copy of a copy.
func TestP20_2Copy(t *testing.T) {
	lists := [][]api.Call{
		{storeOf(1, 0, 77), storeOf(1, 512, 1), storeOf(3, 300, 5)}, {storeOf(1, 700, 1)}, {mmapOf(1, 4, 9, 3), storeOf(1, 1024, 4)}, {munmapOf(1, 0, 3)},
		{mprotectOf(1, 0, 1, 1), mprotectOf(3, 1, 2, 3)}, {exitOf(1)}, {exitOf(1), spawning}, {spawning},
		{policyOf(1, 1, 1)}, {mbindOf(1, 0, 4, 2, 9)}, {mbindOf(1, 3, 1, 0, 0)}, {kmallocOf(9)}, {kfreeOf(9), kfreeOf(4)}, {pokeOf(9, 0, 8), pokeOf(math.MaxUint64, 2, 1)},
		{exitOf(1), exitOf(3), kfreeOf(4), kfreeOf(9), kfreeOf(1 << 40), kfreeOf(math.MaxUint64)},
	}
	for _, first := range lists {
		for _, second := range lists {
			x := some(t)
			y := x.copied(t)
			wantSame(t, "a copy", x.m, y.m, true)
			for _, call := range first {
				y.done(t, call)
			}
			x.want(t, "the first one, behind changes of its copy")
			y.want(t, "a copy that went its own way")
			wantSame(t, "a copy that went its own way", x.m, y.m, false)
			for _, call := range second {
				x.done(t, call)
			}
			y.want(t, "the copy, behind changes of the first one")
			z := y.copied(t)
			x.want(t, "the first one that went its own way")
			for range 2 {
				z.done(t, spawning)
			}
			y.want(t, "the copy, behind changes of its copy")
			z.want(t, "a copy's copy")
		}
	}
}

// A copy knows which handles there ever were, and goes its own way in that, too; its config is that of the first one.
func TestP20_2CopyKnows(t *testing.T) {
	x := made(t, 2)
	x.run(t, "handles",
		line{kmallocOf(3), value(5), true},
		line{kmallocOf(3), value(6), true},
		line{kfreeOf(5), ok, true},
	)
	y := x.copied(t)
	y.run(t, "the copy's",
		line{kmallocOf(3), value(5), false},
		line{kmallocOf(3), value(6), false},
		line{kmallocOf(3), value(7), true},
		line{kmallocOf(3), value(7), false},
	)
	x.run(t, "the first one's",
		line{kmallocOf(3), value(5), false},
		line{kmallocOf(3), value(6), false},
		line{kmallocOf(3), value(7), true},
		line{kmallocOf(3), value(8), true},
	)
	y.run(t, "the copy's",
		line{kmallocOf(3), value(8), true},
		line{spawning, value(1), true},
		line{mmapOf(1, 0, 1, 1), ok, true},
		line{whereOf(1, 0), value(3), false},
		line{whereOf(1, 0), value(2), true},
		line{policyOf(1, 2, 4), no(api.ErrArg), true},
		line{policyOf(1, 2, 2), ok, true},
		line{movePagesOf(1, 0, 1, 1), ok, true},
	)
	x.want(t, "the first one")
}

func TestNotThere(t *testing.T) {
	there := some(t)
	for _, m := range []*model.Model{nil, {}, new(model.Model)} {
		for range 2 {
			for kind := range 256 {
				call := api.Call{Kind: api.CallKind(kind)}
				if kind > 0 && kind <= int(reap) {
					call = one(api.CallKind(kind), 1, 4)
				}
				for _, r := range answers(value(1)) {
					if m.Step(call, r) {
						t.Errorf("Step(%+v, %+v): true", call, r)
					}
				}
			}
			for _, pid := range pidEdges {
				wantHas(t, "not there", m, pid, false)
				for _, page := range slices.Concat(nearPages, pageEdges) {
					wantRights(t, "not there", m, pid, page, 0, false)
					wantPolicy(t, "not there", m, pid, page, api.Policy{}, false)
				}
				for _, addr := range append([]int{0, 1, 255, 256, space - 1}, addrEdges...) {
					wantByte(t, "not there", m, pid, addr, 0, false)
				}
			}
			for _, h := range handles {
				if b, ok := m.Object(h); b != nil || ok {
					t.Errorf("Object(%d): %x, %t", h, b, ok)
				}
			}
			if l, o := m.Objects(), m.Copy(); l != nil || o != nil {
				t.Errorf("Objects: %v, Copy: %v", l, o)
			}
			for _, o := range []*model.Model{nil, {}, m, m.Copy()} {
				wantSame(t, "two that are not there", m, o, true)
			}
			wantSame(t, "one that is there", m, there.m, false)
			wantSame(t, "a new one", m, made(t, 1).m, false)
		}
	}
	there.want(t, "one that is there")
}
