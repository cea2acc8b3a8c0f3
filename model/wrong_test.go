package model_test

import (
	"math"
	"testing"

	"byre/api"
	"byre/calls"
)

// one is a well-formed call of the kind, on the page 1 of the process, or of the handle.
func one(kind api.CallKind, pid int, handle uint64) api.Call {
	return map[api.CallKind]api.Call{
		spawn: {Kind: spawn}, exit: exitOf(pid), mmap: mmapOf(pid, 1, 1, 3), munmap: munmapOf(pid, 1, 1), mprotect: mprotectOf(pid, 1, 1, 1), mlock: mlockOf(pid, 1, 1),
		munlock: munlockOf(pid, 1, 1),
		load:    loadOf(pid, 256, 2), store: storeOf(pid, 256, 1, 2), kmalloc: kmallocOf(5), kfree: kfreeOf(handle), peek: peekOf(handle, 1, 2), poke: pokeOf(handle, 1, 2),
		setPolicy: policyOf(pid, 3, 1), mbind: mbindOf(pid, 1, 1, 3, 1), getPolicy: getPolicyOf(pid, 1), where: whereOf(pid, 1), movePages: movePagesOf(pid, 1, 1, 0),
		kswapd: {Kind: kswapd}, compact: {Kind: compact}, reap: {Kind: reap},
	}[kind]
}

// ErrMemory and ErrIO may be told by some kinds, whatever the machine is, and nothing becomes of it; by the others never.
func TestP20_1Failures(t *testing.T) {
	memory := map[api.CallKind]bool{spawn: true, mlock: true, load: true, store: true, kmalloc: true, movePages: true}
	failure := map[api.CallKind]bool{mlock: true, load: true, store: true}
	for _, nodes := range []int{1, 8} {
		x := made(t, nodes)
		for _, prepare := range [][]api.Call{nil, {spawning}, {mmapOf(1, 1, 1, 1), kmallocOf(4)}, {mprotectOf(1, 1, 1, 2)}, {mprotectOf(1, 1, 1, 3)}, {spawning, spawning, spawning, spawning, spawning, spawning, spawning}} {
			for _, call := range prepare {
				x.done(t, call)
			}
			for kind := spawn; kind <= reap; kind++ {
				for _, pid := range []int{1, 0, 9, math.MinInt, math.MaxInt} {
					for _, handle := range []uint64{1, 0, 2} {
						call := one(kind, pid, handle)
						if x.hold(t, call, no(api.ErrMemory)) != memory[kind] || x.hold(t, call, no(api.ErrIO)) != failure[kind] {
							t.Errorf("the tests' own plain machine tells something else of %+v", call)
						}
						for _, e := range []api.Errno{api.ErrMemory, api.ErrIO} {
							for _, r := range []api.Result{{Errno: e, Value: 1}, {Errno: e, Bytes: []byte{0}}, {Errno: -e}, {Errno: e + 1<<32}} {
								x.hold(t, call, r)
							}
						}
					}
				}
				x.want(t, "failures")
			}
		}
	}
}

// wrongCalls are calls that are wrong on machines of so many nodes.
func wrongCalls(nodes int) []api.Call {
	mask := uint8(1) << (nodes % 8) // on machines of less than eight it is no node's
	l := []api.Call{
		{}, {Kind: 22}, {Kind: 255}, {Kind: spawn, Pid: 1}, {Kind: spawn, Bytes: []byte{0}}, {Kind: exit, Pid: 1, Page: 1}, {Kind: reap, Node: 1},
		{Kind: kmalloc, Size: 8, Pid: 1}, {Kind: kfree, Handle: 1, Size: 1}, {Kind: kfree, Handle: 1, Addr: 1}, {Kind: kfree, Handle: 1, Bytes: []byte{1}},
		{Kind: peek, Handle: 1, Size: 1, Bytes: []byte{1}}, {Kind: poke, Handle: 1, Size: 1, Bytes: []byte{1}}, {Kind: load, Pid: 1, Size: 1, Bytes: []byte{0}},
		{Kind: store, Pid: 1, Size: 1, Bytes: []byte{0}}, {Kind: where, Pid: 1, Count: 1}, {Kind: munmap, Pid: 1, Count: 1, Rights: 1},
		mmapOf(1, 0, 0, 3), mmapOf(1, -1, 1, 3), mmapOf(1, 1024, 1, 3), mmapOf(1, 1023, 2, 3), mmapOf(1, 1, 1024, 3), mmapOf(1, 5, 1, 0), mmapOf(1, 5, 1, 4),
		mmapOf(1, math.MaxInt, math.MaxInt, 3), mmapOf(1, math.MinInt, math.MinInt, 3),
		munmapOf(1, 0, 0), munmapOf(1, 0, 1025), munmapOf(1, -1, 2), munmapOf(1, 1, math.MaxInt), mprotectOf(1, 0, 1, 0), mprotectOf(1, 0, 1, 255), mprotectOf(1, 0, -1, 1),
		mlockOf(1, 0, 0), mlockOf(1, 0, 1025), munlockOf(1, 1024, 1), munlockOf(1, 0, -1),
		loadOf(1, 0, 0), loadOf(1, 0, 9), loadOf(1, 0, -1), loadOf(1, -1, 1), loadOf(1, -256, 1), loadOf(1, 255, 2), loadOf(1, 250, 8), loadOf(1, space, 1),
		loadOf(1, space-1, 2), loadOf(1, math.MinInt, 1), loadOf(1, math.MaxInt, 8),
		storeOf(1, 0), storeOf(1, 0, numbered(0, 9)...), storeOf(1, -1, 1), storeOf(1, 255, 1, 2), storeOf(1, space, 1), storeOf(1, math.MinInt, 1), storeOf(1, math.MaxInt, 1),
		kmallocOf(0), kmallocOf(-1), kmallocOf(129), kmallocOf(math.MinInt), kmallocOf(math.MaxInt), peekOf(1, 0, 0), peekOf(1, 0, 9), peekOf(1, -1, 1), peekOf(1, 128, 1),
		peekOf(1, 121, 8), peekOf(1, math.MaxInt, 8), peekOf(1, math.MinInt, 8), peekOf(9, 128, 1),
		pokeOf(1, 0), pokeOf(1, 0, numbered(0, 9)...), pokeOf(1, -1, 1), pokeOf(1, 128, 1), pokeOf(1, 121, numbered(0, 8)...), pokeOf(1, math.MaxInt, 1),
		pokeOf(1, math.MinInt, 1), pokeOf(9, 128, 1),
		policyOf(1, 0, 1), policyOf(1, 1, 0), policyOf(1, 2, 0), policyOf(1, 3, 0), policyOf(1, 4, 1), policyOf(1, 255, 0), policyOf(1, 1, 3), mbindOf(1, 0, 1, 0, 1),
		mbindOf(1, 0, 1, 4, 1), mbindOf(1, 0, 0, 0, 0), mbindOf(1, 0, 1025, 0, 0), mbindOf(1, 0, 1, 2, 0),
		getPolicyOf(1, -1), getPolicyOf(1, 1024), getPolicyOf(1, math.MinInt), getPolicyOf(1, math.MaxInt), whereOf(1, -1), whereOf(1, 1024), whereOf(1, math.MaxInt),
		movePagesOf(1, 0, 0, 0), movePagesOf(1, 1000, 25, 0), movePagesOf(1, 0, 1, -1), movePagesOf(1, 0, 1, nodes), movePagesOf(1, 0, 1, math.MinInt),
		movePagesOf(1, 0, 1, math.MaxInt),
		{Kind: kswapd, Node: nodes}, {Kind: kswapd, Node: -1}, {Kind: compact, Node: nodes}, {Kind: compact, Node: -1}, {Kind: kswapd, Node: math.MaxInt}, {Kind: compact, Node: math.MinInt},
	}
	if nodes < 8 {
		l = append(l, policyOf(1, 1, mask), policyOf(1, 2, mask|1), policyOf(1, 3, 255), mbindOf(1, 0, 1, 1, mask), mbindOf(1, 0, 1, 2, 255), mbindOf(1, 0, 1, 3, mask|1))
	}
	return l
}

// A wrong call is answered ErrArg alone: not what the machine would tell next, and not that there is no frame, or that the device failed; nothing becomes of it.
func TestP20_1WrongCalls(t *testing.T) {
	for _, nodes := range []int{1, 8} {
		x := made(t, nodes)
		for _, prepare := range [][]api.Call{nil, {spawning}, {mmapOf(1, 0, 4, 3), kmallocOf(128), storeOf(1, 0, 5), policyOf(1, 3, 1), mbindOf(1, 1, 2, 2, 1)}, {mmapOf(1, 4, 1020, 3)}} {
			for _, call := range prepare {
				x.done(t, call)
			}
			for _, call := range wrongCalls(nodes) {
				for _, r := range answers(ok) {
					want := r.Errno == api.ErrArg && r.Value == 0 && len(r.Bytes) == 0
					if got := x.m.Step(call, r); got != want {
						t.Errorf("%d nodes: Step(%+v, %+v): %t", nodes, call, r, got)
					}
				}
				if !calls.Wrong(machine(nodes), call) {
					t.Errorf("%d nodes: %+v is not wrong", nodes, call)
				}
			}
			x.wantAll(t, "wrong calls")
		}
	}
}

// What is wrong on a machine of one node may be on one of eight.
func TestP20_1WrongByNodes(t *testing.T) {
	few, many := made(t, 1), made(t, 8)
	for _, x := range []both{few, many} {
		x.done(t, spawning)
		x.done(t, mmapOf(1, 0, 1024, 3))
	}
	for _, call := range []api.Call{policyOf(1, 1, 128), policyOf(1, 2, 2), policyOf(1, 3, 255), mbindOf(1, 0, 1024, 1, 2), mbindOf(1, 5, 1, 2, 255), movePagesOf(1, 0, 1024, 7), movePagesOf(1, 0, 1, 1), {Kind: kswapd, Node: 7}, {Kind: compact, Node: 1}} {
		few.run(t, "one node",
			line{call, ok, false},
			line{call, no(api.ErrMemory), false},
			line{call, no(api.ErrArg), true},
		)
		many.run(t, "eight nodes", line{call, no(api.ErrArg), false}, line{call, ok, true})
	}
}
