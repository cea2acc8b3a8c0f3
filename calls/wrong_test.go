package calls_test

import (
	"bytes"
	"math"
	"slices"
	"testing"

	"byre/api"
	"byre/calls"
	"byre/config"
)

// What the chapter names, in its own numbers.
const (
	pages     = 1024
	pageBytes = 256
	object    = 128
	space     = pages * pageBytes
)

var (
	pageEdges  = []int{math.MinInt, math.MinInt + 1, -1024, -2, -1, 0, 1, 2, 511, 512, 1022, 1023, 1024, 1025, 1 << 32, math.MaxInt - 1023, math.MaxInt - 1, math.MaxInt}
	countEdges = []int{math.MinInt, math.MinInt + 1, -1024, -1, 0, 1, 2, 3, 511, 512, 513, 514, 1021, 1022, 1023, 1024, 1025, 1026, 1 << 32, 1<<32 + 1, math.MaxInt - 1023, math.MaxInt - 1022, math.MaxInt - 1, math.MaxInt}
	nodeEdges  = []int{math.MinInt, -256, -8, -2, -1, 0, 1, 2, 3, 4, 5, 6, 7, 8, 9, 15, 16, 255, 256, 257, 1 << 32, 1<<32 + 1, math.MaxInt}
	sizeEdges  = []int{math.MinInt, math.MinInt + 1, -256, -8, -1, 0, 1, 2, 3, 4, 5, 6, 7, 8, 9, 10, 16, 127, 128, 129, 130, 255, 256, 257, 1 << 32, 1<<32 + 1, math.MaxInt - 1, math.MaxInt}
	manyEdges  = []int{0, 1, 2, 3, 4, 5, 6, 7, 8, 9, 128, 129, 256, 257}
)

// addrEdges are addresses at the edges of the space, of some pages and of an object.
func addrEdges() []int {
	l := []int{math.MinInt, math.MinInt + 1, -1 << 32, 1 << 32, 1<<32 + 5, math.MaxInt - 128, math.MaxInt - 9, math.MaxInt - 8, math.MaxInt - 7, math.MaxInt - 6, math.MaxInt - 1, math.MaxInt}
	for _, end := range []int{-pageBytes, 0, object, pageBytes, 2 * pageBytes, 512 * pageBytes, space - pageBytes, space, space + pageBytes} {
		for d := -10; d <= 10; d++ {
			l = append(l, end+d)
		}
	}
	return l
}

// rangeMay tells whether the call's pages are a range.
func rangeMay(x api.Call) bool {
	if x.Page < 0 || x.Page > pages || x.Count < 1 || x.Count > pages {
		return false
	}
	return x.Page+x.Count <= pages
}

// accessMay tells whether so many bytes from addr on lie on one page: byte by byte.
func accessMay(addr, size int) bool {
	if size < 1 || size > 8 {
		return false
	}
	for a := addr; a < addr+size; a++ {
		if a < 0 || a >= space || a/pageBytes != addr/pageBytes {
			return false
		}
	}
	return addr+size > addr // else the sum was wrapped
}

// objectMay tells whether so many bytes from addr on lie in the greatest object.
func objectMay(addr, size int) bool {
	return size > 0 && size < 9 && addr > -1 && addr < 129 && addr+size < 129
}

// policyMay tells whether there may be the policy where there are so many nodes.
func policyMay(nodes int, p api.Policy) bool {
	if int(p.Mask) >= 1<<nodes {
		return false
	}
	switch p.Kind {
	case 0:
		return p.Mask == 0
	case 1:
		return slices.Contains([]uint8{1, 2, 4, 8, 16, 32, 64, 128}, p.Mask)
	}
	return p.Kind < 4 && p.Mask > 0
}

// plainWrong is what Wrong is to answer of a call that may be, on a machine that may be, with so many nodes.
func plainWrong(nodes int, x api.Call) bool {
	node := x.Node >= 0 && x.Node < nodes
	switch x.Kind {
	case mmap, mprotect:
		return !rangeMay(x) || x.Rights == 0 || x.Rights > 3
	case munmap, mlock, munlock:
		return !rangeMay(x)
	case load:
		return !accessMay(x.Addr, x.Size)
	case store:
		return !accessMay(x.Addr, len(x.Bytes))
	case kmalloc:
		return x.Size < 1 || x.Size > object
	case peek:
		return !objectMay(x.Addr, x.Size)
	case poke:
		return !objectMay(x.Addr, len(x.Bytes))
	case setPolicy:
		return !policyMay(nodes, x.Policy)
	case mbind:
		return !rangeMay(x) || !policyMay(nodes, x.Policy)
	case getPolicy, where:
		return x.Page < 0 || x.Page > 1023
	case movePages:
		return !rangeMay(x) || !node
	case kswapd, compact:
		return !node
	}
	return false
}

// machine is a config with so many nodes.
func machine(nodes int) api.Config {
	c := api.Config{Nodes: nodes, CPUs: 2, Slots: 3, Min: 1, Low: 2, High: 3}
	c.Home[1] = nodes - 1
	for a := range nodes {
		c.Frames[a] = 4 + a
		for b := range nodes {
			if a != b {
				c.Distance[a][b] = 10 + a + b
			}
		}
	}
	return c
}

// noMachines are configs that may not be.
func noMachines() []api.Config {
	spoilt := func(do func(c *api.Config)) api.Config {
		c := machine(3)
		do(&c)
		return c
	}
	return []api.Config{
		{}, machine(0), {Nodes: 1, CPUs: 1}, {Nodes: 8},
		spoilt(func(c *api.Config) { c.Nodes = 2 }), spoilt(func(c *api.Config) { c.Nodes = 4 }),
		spoilt(func(c *api.Config) { c.Nodes = -1 }), spoilt(func(c *api.Config) { c.Nodes = 9 }),
		spoilt(func(c *api.Config) { c.Nodes = math.MinInt }), spoilt(func(c *api.Config) { c.Nodes = math.MaxInt }),
		spoilt(func(c *api.Config) { c.CPUs = 0 }), spoilt(func(c *api.Config) { c.CPUs = 17 }),
		spoilt(func(c *api.Config) { c.Home[0] = 3 }), spoilt(func(c *api.Config) { c.Home[0] = -1 }),
		spoilt(func(c *api.Config) { c.Frames[1] = 3 }), spoilt(func(c *api.Config) { c.Frames[7] = 4 }),
		spoilt(func(c *api.Config) { c.Distance[0][1] = 9 }), spoilt(func(c *api.Config) { c.Distance[2][2] = 1 }),
		spoilt(func(c *api.Config) { c.Slots = -1 }), spoilt(func(c *api.Config) { c.Slots = 1025 }),
		spoilt(func(c *api.Config) { c.Min = -1 }), spoilt(func(c *api.Config) { c.High = 5 }),
	}
}

// well is a well-formed call of the kind, on each machine.
func well(kind api.CallKind) api.Call {
	x := api.Call{Kind: kind}
	for _, name := range table(kind) {
		switch name {
		case "Bytes":
			x.Bytes = []byte{5}
		case "Kind":
			x.Policy.Kind = 2
		default:
			partOf(name).put(&x, 1)
		}
	}
	if kind == movePages || kind == kswapd || kind == compact {
		x.Node = 0 // the one that each machine has
	}
	return x
}

// wantWrong holds what Wrong answers against what it is to answer.
func wantWrong(t *testing.T, c api.Config, x api.Call, want bool) {
	t.Helper()
	was := twin(x)
	if got := calls.Wrong(c, x); got != want {
		t.Errorf("%d nodes: Wrong(%+v): %t", c.Nodes, x, got)
	}
	if !bytes.Equal(x.Bytes, was.Bytes) {
		t.Errorf("%d nodes: Wrong(%+v): the bytes are %x by now", c.Nodes, was, x.Bytes)
	}
}

// wantPlainWrong holds what Wrong answers of some machines against what plainWrong does.
func wantPlainWrong(t *testing.T, x api.Call) {
	t.Helper()
	for _, nodes := range []int{1, 2, 3, 7, 8} {
		wantWrong(t, machine(nodes), x, plainWrong(nodes, x))
	}
}

func TestP19_2Examples(t *testing.T) {
	for nodes := 1; nodes <= 8; nodes++ {
		wantWrong(t, machine(nodes), api.Call{Kind: load, Addr: 250, Size: 8}, true)
		wantWrong(t, machine(nodes), api.Call{Kind: load, Addr: 248, Size: 8}, false)
	}
}

// The chapter's table, at its edges, on a machine of three nodes.
func TestP19_2ByHand(t *testing.T) {
	c := machine(3)
	for _, x := range []struct {
		call api.Call
		want bool
	}{
		{api.Call{Kind: spawn}, false}, {api.Call{Kind: reap}, false},
		{api.Call{Kind: exit}, false}, {api.Call{Kind: exit, Pid: -1}, false}, {api.Call{Kind: exit, Pid: 9}, false},
		{api.Call{Kind: mmap, Pid: 1, Count: 1024, Rights: 3}, false}, {api.Call{Kind: mmap, Pid: 1, Count: 1025, Rights: 3}, true},
		{api.Call{Kind: mmap, Pid: 1, Page: 1, Count: 1023, Rights: 1}, false}, {api.Call{Kind: mmap, Pid: 1, Page: 1, Count: 1024, Rights: 1}, true},
		{api.Call{Kind: mmap, Page: 1023, Count: 1, Rights: 2}, false}, {api.Call{Kind: mmap, Page: 1023, Count: 2, Rights: 2}, true},
		{api.Call{Kind: mmap, Page: 1024, Count: 0, Rights: 2}, true}, {api.Call{Kind: mmap, Page: 1024, Count: 1, Rights: 2}, true},
		{api.Call{Kind: mmap, Page: 5, Count: 0, Rights: 2}, true}, {api.Call{Kind: mmap, Page: -1, Count: 2, Rights: 2}, true},
		{api.Call{Kind: mprotect, Page: 5, Count: 5, Rights: 0}, true}, {api.Call{Kind: mprotect, Page: 5, Count: 5, Rights: 1}, false},
		{api.Call{Kind: mprotect, Page: 5, Count: 5, Rights: 3}, false}, {api.Call{Kind: mprotect, Page: 5, Count: 5, Rights: 4}, true},
		{api.Call{Kind: mprotect, Page: 5, Count: 5, Rights: 5}, true}, {api.Call{Kind: mprotect, Page: 5, Count: 5, Rights: 255}, true},
		{api.Call{Kind: munmap, Count: 1024}, false}, {api.Call{Kind: munmap}, true}, {api.Call{Kind: munmap, Page: 1000, Count: 25}, true},
		{api.Call{Kind: mlock, Page: 1000, Count: 24}, false}, {api.Call{Kind: mlock, Page: 1000, Count: math.MaxInt}, true},
		{api.Call{Kind: munlock, Page: 1023, Count: 1}, false}, {api.Call{Kind: munlock, Page: math.MinInt, Count: math.MinInt}, true},
		{api.Call{Kind: load, Size: 1}, false}, {api.Call{Kind: load}, true}, {api.Call{Kind: load, Size: 9}, true},
		{api.Call{Kind: load, Addr: 255, Size: 1}, false}, {api.Call{Kind: load, Addr: 255, Size: 2}, true}, {api.Call{Kind: load, Addr: 254, Size: 2}, false},
		{api.Call{Kind: load, Addr: 256, Size: 8}, false}, {api.Call{Kind: load, Addr: -1, Size: 1}, true}, {api.Call{Kind: load, Addr: -8, Size: 8}, true},
		{api.Call{Kind: load, Addr: 262143, Size: 1}, false}, {api.Call{Kind: load, Addr: 262143, Size: 2}, true}, {api.Call{Kind: load, Addr: 262144, Size: 1}, true},
		{api.Call{Kind: store, Bytes: some(8)}, false}, {api.Call{Kind: store}, true}, {api.Call{Kind: store, Bytes: some(9)}, true},
		{api.Call{Kind: store, Addr: 249, Bytes: some(7)}, false}, {api.Call{Kind: store, Addr: 249, Bytes: some(8)}, true},
		{api.Call{Kind: store, Addr: 262136, Bytes: some(8)}, false}, {api.Call{Kind: store, Addr: 262137, Bytes: some(8)}, true},
		{api.Call{Kind: kmalloc}, true}, {api.Call{Kind: kmalloc, Size: 1}, false}, {api.Call{Kind: kmalloc, Size: 9}, false},
		{api.Call{Kind: kmalloc, Size: 128}, false}, {api.Call{Kind: kmalloc, Size: 129}, true}, {api.Call{Kind: kmalloc, Size: -1}, true},
		{api.Call{Kind: kfree}, false}, {api.Call{Kind: kfree, Handle: 1}, false}, {api.Call{Kind: kfree, Handle: math.MaxUint64}, false},
		{api.Call{Kind: peek, Size: 1}, false}, {api.Call{Kind: peek, Size: 9}, true}, {api.Call{Kind: peek, Addr: -1, Size: 1}, true}, {api.Call{Kind: peek}, true},
		{api.Call{Kind: peek, Addr: 120, Size: 8}, false}, {api.Call{Kind: peek, Addr: 121, Size: 8}, true}, {api.Call{Kind: peek, Addr: 127, Size: 1}, false},
		{api.Call{Kind: peek, Addr: 128, Size: 1}, true}, {api.Call{Kind: peek, Addr: 128, Size: 0}, true}, {api.Call{Kind: peek, Addr: math.MaxInt, Size: 8}, true},
		{api.Call{Kind: poke, Addr: 120, Bytes: some(8)}, false}, {api.Call{Kind: poke, Addr: 121, Bytes: some(8)}, true}, {api.Call{Kind: poke, Addr: 7}, true},
		{api.Call{Kind: setPolicy}, false}, {api.Call{Kind: setPolicy, Policy: api.Policy{Kind: 1, Mask: 4}}, false},
		{api.Call{Kind: setPolicy, Policy: api.Policy{Kind: 1, Mask: 8}}, true}, {api.Call{Kind: setPolicy, Policy: api.Policy{Kind: 4, Mask: 1}}, true},
		{api.Call{Kind: setPolicy, Policy: api.Policy{Kind: 0, Mask: 1}}, true}, {api.Call{Kind: setPolicy, Policy: api.Policy{Kind: 2, Mask: 0}}, true},
		{api.Call{Kind: mbind, Count: 1}, false}, {api.Call{Kind: mbind}, true}, {api.Call{Kind: mbind, Count: 1, Policy: api.Policy{Kind: 3, Mask: 7}}, false},
		{api.Call{Kind: mbind, Count: 1, Policy: api.Policy{Kind: 3, Mask: 15}}, true}, {api.Call{Kind: mbind, Policy: api.Policy{Kind: 3, Mask: 7}}, true},
		{api.Call{Kind: getPolicy}, false}, {api.Call{Kind: getPolicy, Page: 1023}, false}, {api.Call{Kind: getPolicy, Page: 1024}, true}, {api.Call{Kind: getPolicy, Page: -1}, true},
		{api.Call{Kind: where}, false}, {api.Call{Kind: where, Page: 1023}, false}, {api.Call{Kind: where, Page: 1024}, true}, {api.Call{Kind: where, Page: -1}, true},
		{api.Call{Kind: movePages, Count: 1}, false}, {api.Call{Kind: movePages, Count: 1, Node: 2}, false}, {api.Call{Kind: movePages, Count: 1, Node: 3}, true},
		{api.Call{Kind: movePages, Count: 1, Node: -1}, true}, {api.Call{Kind: movePages, Count: 0, Node: 1}, true}, {api.Call{Kind: movePages, Page: 1, Count: 1024, Node: 1}, true},
		{api.Call{Kind: kswapd}, false}, {api.Call{Kind: kswapd, Node: 2}, false}, {api.Call{Kind: kswapd, Node: 3}, true}, {api.Call{Kind: kswapd, Node: -1}, true},
		{api.Call{Kind: compact}, false}, {api.Call{Kind: compact, Node: 2}, false}, {api.Call{Kind: compact, Node: 3}, true}, {api.Call{Kind: compact, Node: -1}, true},
	} {
		wantWrong(t, c, x.call, x.want)
	}
}

// Pages by pages, and rights: of all kinds that have a range, and of those that have one page.
func TestP19_2Ranges(t *testing.T) {
	for _, page := range pageEdges {
		wantPlainWrong(t, api.Call{Kind: getPolicy, Pid: 1, Page: page})
		wantPlainWrong(t, api.Call{Kind: where, Pid: 1, Page: page})
		// Up to the space's end, and one more, from where it lies; the difference may be wrapped, and is a count all the same.
		for _, count := range append([]int{pages - page - 1, pages - page, pages - page + 1}, countEdges...) {
			for _, kind := range []api.CallKind{munmap, mlock, munlock, movePages, mbind} {
				wantPlainWrong(t, api.Call{Kind: kind, Pid: 1, Page: page, Count: count})
			}
			for _, rights := range []uint8{0, 1, 2, 3, 4, 5, 6, 7, 127, 128, 129, 131, 255} {
				wantPlainWrong(t, api.Call{Kind: mmap, Pid: 1, Page: page, Count: count, Rights: rights})
				wantPlainWrong(t, api.Call{Kind: mprotect, Pid: 1, Page: page, Count: count, Rights: rights})
			}
		}
	}
}

// Each range of the space begins somewhere and ends within it.
func TestP19_2EachRange(t *testing.T) {
	c := machine(2)
	for page := range pages {
		for _, kind := range []api.CallKind{munmap, mlock} {
			wantWrong(t, c, api.Call{Kind: kind, Page: page, Count: 1}, false)
			wantWrong(t, c, api.Call{Kind: kind, Page: page, Count: pages - page}, false)
			wantWrong(t, c, api.Call{Kind: kind, Page: page, Count: pages - page + 1}, true)
		}
	}
}

// Addresses and sizes: of loads and stores.
func TestP19_2Accesses(t *testing.T) {
	for _, addr := range addrEdges() {
		for _, size := range sizeEdges {
			wantPlainWrong(t, api.Call{Kind: load, Pid: 1, Addr: addr, Size: size})
		}
		for _, many := range manyEdges[:9] {
			wantPlainWrong(t, api.Call{Kind: store, Pid: 1, Addr: addr, Bytes: some(many)})
		}
		for _, many := range manyEdges[9:] {
			wantWrong(t, machine(2), api.Call{Kind: store, Pid: 1, Addr: addr, Bytes: some(many)}, true)
		}
	}
}

// Each page's end is one.
func TestP19_2EachPage(t *testing.T) {
	c := machine(1)
	for page := range pages {
		for size := 1; size <= 8; size++ {
			end := (page + 1) * pageBytes
			wantWrong(t, c, api.Call{Kind: load, Addr: page * pageBytes, Size: size}, false)
			wantWrong(t, c, api.Call{Kind: load, Addr: end - size, Size: size}, false)
			wantWrong(t, c, api.Call{Kind: store, Addr: end - size, Bytes: some(size)}, false)
			if size < 8 {
				wantWrong(t, c, api.Call{Kind: load, Addr: end - size, Size: size + 1}, true)
				wantWrong(t, c, api.Call{Kind: store, Addr: end - size, Bytes: some(size + 1)}, true)
			}
		}
	}
}

// Addresses and sizes: of objects that are made, peeked and poked.
func TestP19_2Objects(t *testing.T) {
	for _, handle := range []uint64{0, 1, math.MaxUint64} {
		wantPlainWrong(t, api.Call{Kind: kfree, Handle: handle})
		for _, addr := range addrEdges() {
			for _, size := range sizeEdges {
				wantPlainWrong(t, api.Call{Kind: peek, Handle: handle, Addr: addr, Size: size})
			}
			for _, many := range manyEdges[:9] {
				wantPlainWrong(t, api.Call{Kind: poke, Handle: handle, Addr: addr, Bytes: some(many)})
			}
			for _, many := range manyEdges[9:] {
				wantWrong(t, machine(2), api.Call{Kind: poke, Handle: handle, Addr: addr, Bytes: some(many)}, true)
			}
		}
	}
	for _, size := range sizeEdges {
		wantPlainWrong(t, api.Call{Kind: kmalloc, Size: size})
	}
	for size := -300; size <= 300; size++ {
		wantPlainWrong(t, api.Call{Kind: kmalloc, Size: size})
		wantPlainWrong(t, api.Call{Kind: peek, Handle: 1, Addr: size, Size: 3})
	}
}

// Policies that may be and that may not be, on machines with each number of nodes.
func TestP19_2Policies(t *testing.T) {
	for nodes := 1; nodes <= 8; nodes++ {
		c := machine(nodes)
		for kind := range 256 {
			for _, mask := range []uint8{0, 1, 2, 3, 4, 5, 7, 8, 15, 16, 31, 32, 63, 64, 96, 127, 128, 129, 254, 255} {
				p := api.Policy{Kind: api.PolicyKind(kind), Mask: mask}
				wrong := !policyMay(nodes, p)
				wantWrong(t, c, api.Call{Kind: setPolicy, Pid: 1, Policy: p}, wrong)
				wantWrong(t, c, api.Call{Kind: mbind, Pid: 1, Count: 1, Policy: p}, wrong)
				wantWrong(t, c, api.Call{Kind: mbind, Pid: 1, Page: 1023, Count: 1, Policy: p}, wrong)
				wantWrong(t, c, api.Call{Kind: mbind, Pid: 1, Page: 1023, Count: 2, Policy: p}, true)
			}
		}
	}
}

// Nodes that are and that are none, on machines with each number of them.
func TestP19_2Nodes(t *testing.T) {
	for nodes := 1; nodes <= 8; nodes++ {
		for _, node := range nodeEdges {
			none := node < 0 || node >= nodes
			wantWrong(t, machine(nodes), api.Call{Kind: kswapd, Node: node}, none)
			wantWrong(t, machine(nodes), api.Call{Kind: compact, Node: node}, none)
			wantWrong(t, machine(nodes), api.Call{Kind: movePages, Pid: 1, Page: 1, Count: 2, Node: node}, none)
			wantWrong(t, machine(nodes), api.Call{Kind: movePages, Pid: 1, Page: 1, Count: 0, Node: node}, true)
		}
	}
}

// Whatever a pid is, a process with it or none: that is not what is asked.
func TestP19_2Pids(t *testing.T) {
	for _, kind := range kinds() {
		if !slices.Contains(table(kind), "Pid") {
			continue
		}
		for _, pid := range append([]int{0, 8, 9}, wide...) {
			x := well(kind)
			x.Pid = pid
			wantWrong(t, machine(1), x, false)
			wantWrong(t, machine(8), x, false)
		}
	}
}

// On a machine that may not be each call is wrong, one that is well formed elsewhere too.
func TestP19_2NoMachines(t *testing.T) {
	for _, c := range noMachines() {
		for kind := range 256 {
			wantWrong(t, c, api.Call{Kind: api.CallKind(kind)}, true)
		}
		for _, kind := range kinds() {
			wantWrong(t, c, well(kind), true)
			wantWrong(t, machine(3), well(kind), false)
			wantWrong(t, config.Least(4), well(kind), false)
		}
	}
}

// A call that may not be is wrong on each machine, though it is well formed but for that.
func TestP19_2NoCalls(t *testing.T) {
	for _, nodes := range []int{1, 3, 8} {
		c := machine(nodes)
		for _, kind := range noKinds() {
			x := well(load)
			x.Kind = kind
			wantWrong(t, c, x, true)
			wantWrong(t, c, api.Call{Kind: kind}, true)
		}
		for _, kind := range kinds() {
			for _, p := range parts() {
				if slices.Contains(table(kind), p.name) {
					continue
				}
				for _, n := range p.edges {
					x := well(kind)
					p.put(&x, n)
					wantWrong(t, c, x, true)
				}
			}
		}
	}
}

// What a call is answered hangs on nothing that was asked ahead of it.
func TestP19_2AskedAgain(t *testing.T) {
	for range 3 {
		for _, kind := range kinds() {
			wantWrong(t, api.Config{}, well(kind), true)
			wantWrong(t, machine(3), well(kind), false)
			wantWrong(t, machine(3), api.Call{Kind: noKind}, true)
		}
	}
}
