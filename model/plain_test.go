package model_test

import (
	"bytes"
	"math"
	"slices"
	"testing"

	"byre/api"
	"byre/calls"
	"byre/model"
)

// What the chapter names, in its own numbers.
const (
	spawn api.CallKind = iota + 1
	exit
	mmap
	munmap
	mprotect
	mlock
	munlock
	load
	store
	kmalloc
	kfree
	peek
	poke
	setPolicy
	mbind
	getPolicy
	where
	movePages
	kswapd
	compact
	reap
)

const (
	procs     = 8
	pages     = 1024
	pageBytes = 256
	space     = pages * pageBytes
	mostRuns  = 32
	object    = 128
)

var (
	pidEdges  = []int{math.MinInt, math.MinInt + 1, -1 << 32, 1 - 1<<32, -8, -1, 0, 1, 2, 3, 4, 5, 6, 7, 8, 9, 10, 16, 257, 1 << 32, 1<<32 + 1, math.MaxInt - 1, math.MaxInt}
	pageEdges = []int{math.MinInt, math.MinInt + 1, -1 << 32, 1 - 1<<32, -1024, -2, -1, 1024, 1025, 2047, 2048, 1 << 32, 1<<32 + 1, math.MaxInt - 1, math.MaxInt}
	addrEdges = []int{math.MinInt, math.MinInt + 1, math.MinInt + 255, math.MinInt + 256, -1 << 32, -space, -257, -256, -255, -2, -1, space, space + 1, space + 255, space + 256, 1 << 32, 1<<32 + 1, math.MaxInt - 255, math.MaxInt - 1, math.MaxInt}
	nearPages = []int{0, 1, 2, 3, 4, 5, 511, 512, 513, 1020, 1021, 1022, 1023}
	handles   = []uint64{0, 1, 2, 3, 7, 8, 255, 256, 32768, 98369, 1 << 32, 1<<32 + 7, 1 << 63, math.MaxUint64 - 1, math.MaxUint64}
)

// plainPage is a page, that has no rights if it is not mapped.
type plainPage struct {
	rights uint8
	hasOwn bool
	own    api.Policy
	bytes  [pageBytes]byte
}

// plainProcess has all of its pages written out.
type plainProcess struct {
	policy api.Policy
	pages  [pages]plainPage
}

// plain is a machine that has all written out.
type plain struct {
	c         api.Config
	processes [procs + 1]*plainProcess
	objects   map[uint64][]byte
	ever      map[uint64]bool
}

func newPlain(c api.Config) *plain {
	return &plain{c: c, objects: map[uint64][]byte{}, ever: map[uint64]bool{}}
}

// twin is another one like it.
func (p *plain) twin() *plain {
	q := newPlain(p.c)
	for pid, x := range p.processes {
		if x != nil {
			y := *x
			q.processes[pid] = &y
		}
	}
	for h, b := range p.objects {
		q.objects[h] = bytes.Clone(b)
	}
	for h := range p.ever {
		q.ever[h] = true
	}
	return q
}

func (p *plain) process(pid int) *plainProcess {
	if pid < 1 || pid > procs {
		return nil
	}
	return p.processes[pid]
}

// spawned is the pid of the next process; 0: all are there.
func (p *plain) spawned() int {
	for pid := 1; pid <= procs; pid++ {
		if p.processes[pid] == nil {
			return pid
		}
	}
	return 0
}

// mapped is how many of the pages are.
func (x *plainProcess) mapped(page, count int) int {
	n := 0
	for i := page; i < page+count; i++ {
		if x.pages[i].rights > 0 {
			n++
		}
	}
	return n
}

// runs is how many there would be, if the pages had these rights.
func (x *plainProcess) runs(page, count int, rights uint8) int {
	n, last := 0, uint8(0)
	for i := range x.pages {
		r := x.pages[i].rights
		if i >= page && i < page+count {
			r = rights
		}
		if r > 0 && r != last {
			n++
		}
		last = r
	}
	return n
}

// policyOf is the page's own, or else the process'.
func (x *plainProcess) policyOf(page int) api.Policy {
	if x.pages[page].hasOwn {
		return x.pages[page].own
	}
	return x.policy
}

// refusal is what the chapter's table names first of the errors that are so.
func (p *plain) refusal(x api.Call) api.Errno {
	if calls.Wrong(p.c, x) {
		return api.ErrArg
	}
	switch x.Kind {
	case spawn:
		if p.spawned() == 0 {
			return api.ErrFull
		}
		return api.OK
	case kfree, peek, poke:
		b, ok := p.objects[x.Handle]
		switch {
		case !ok:
			return api.ErrHandle
		case x.Kind == peek && x.Addr+x.Size > len(b), x.Kind == poke && x.Addr+len(x.Bytes) > len(b):
			return api.ErrArg
		}
		return api.OK
	case kmalloc, kswapd, compact, reap:
		return api.OK
	}
	if q := p.process(x.Pid); q != nil {
		return q.refusal(x)
	}
	return api.ErrNone
}

func (q *plainProcess) refusal(x api.Call) api.Errno {
	full := func(rights uint8) api.Errno {
		if q.runs(x.Page, x.Count, rights) > mostRuns {
			return api.ErrFull
		}
		return api.OK
	}
	access := func(right uint8) api.Errno {
		switch its := q.pages[x.Addr/pageBytes].rights; {
		case its == 0:
			return api.ErrNone
		case its != right && its != 3:
			return api.ErrRights
		}
		return api.OK
	}
	switch x.Kind {
	case mmap:
		if q.mapped(x.Page, x.Count) > 0 {
			return api.ErrTwice
		}
		return full(x.Rights)
	case munmap:
		return full(0)
	case mprotect:
		if q.mapped(x.Page, x.Count) < x.Count {
			return api.ErrNone
		}
		return full(x.Rights)
	case mlock, munlock, mbind, movePages:
		if q.mapped(x.Page, x.Count) < x.Count {
			return api.ErrNone
		}
	case where:
		if q.mapped(x.Page, 1) == 0 {
			return api.ErrNone
		}
	case load:
		return access(1)
	case store:
		return access(2)
	}
	return api.OK
}

// right is an answer that may be; next is a handle that never was one.
func (p *plain) right(x api.Call, next uint64) api.Result {
	if e := p.refusal(x); e != api.OK {
		return api.Result{Errno: e}
	}
	switch x.Kind {
	case spawn:
		return api.Result{Value: uint64(p.spawned())}
	case load:
		its := p.process(x.Pid).pages[x.Addr/pageBytes].bytes
		return api.Result{Bytes: its[x.Addr%pageBytes:][:x.Size]}
	case kmalloc:
		return api.Result{Value: next}
	case peek:
		return api.Result{Bytes: bytes.Clone(p.objects[x.Handle][x.Addr:][:x.Size])}
	case getPolicy:
		its := p.process(x.Pid).policyOf(x.Page)
		return api.Result{Value: 256*uint64(its.Kind) + uint64(its.Mask)}
	}
	return api.Result{}
}

// may tells whether x may be answered so.
func (p *plain) may(x api.Call, r api.Result) bool {
	alone := r.Value == 0 && len(r.Bytes) == 0
	if !calls.Wrong(p.c, x) {
		if r.Errno == api.ErrMemory && slices.Contains([]api.CallKind{spawn, mlock, load, store, kmalloc, movePages}, x.Kind) {
			return alone
		}
		if r.Errno == api.ErrIO && slices.Contains([]api.CallKind{mlock, load, store}, x.Kind) {
			return alone
		}
	}
	if r.Errno != p.refusal(x) {
		return false
	}
	switch {
	case r.Errno != api.OK:
		return alone
	case x.Kind == kmalloc:
		return r.Value > 0 && !p.ever[r.Value] && len(r.Bytes) == 0
	case x.Kind == where:
		return r.Value <= uint64(p.c.Nodes) && len(r.Bytes) == 0
	}
	want := p.right(x, 0)
	return r.Value == want.Value && slices.Equal(r.Bytes, want.Bytes)
}

// do makes of the machine what becomes of it, if x is answered so, which may be.
func (p *plain) do(x api.Call, r api.Result) {
	if r.Errno != api.OK {
		return
	}
	q := p.process(x.Pid)
	switch x.Kind {
	case spawn:
		p.processes[r.Value] = &plainProcess{}
	case exit:
		p.processes[x.Pid] = nil
	case store:
		copy(q.pages[x.Addr/pageBytes].bytes[x.Addr%pageBytes:], x.Bytes)
	case kmalloc:
		p.objects[r.Value], p.ever[r.Value] = make([]byte, x.Size), true
	case kfree:
		delete(p.objects, x.Handle)
	case poke:
		copy(p.objects[x.Handle][x.Addr:], x.Bytes)
	case setPolicy:
		q.policy = x.Policy
	case mmap, munmap, mprotect, mbind:
		for i := x.Page; i < x.Page+x.Count; i++ {
			switch x.Kind {
			case mbind:
				q.pages[i].hasOwn, q.pages[i].own = true, x.Policy
			case mprotect:
				q.pages[i].rights = x.Rights
			default:
				q.pages[i] = plainPage{rights: x.Rights}
			}
		}
	}
}

// both are a machine and a plain one that is to be as it is.
type both struct {
	m *model.Model
	p *plain
}

// made is a new machine of so many nodes, and its plain one.
func made(t *testing.T, nodes int) both {
	t.Helper()
	return madeOf(t, machine(nodes))
}

func madeOf(t *testing.T, c api.Config) both {
	t.Helper()
	m, e := model.New(c)
	if e != api.OK || m == nil {
		t.Fatalf("New(%+v): %v, error %d", c, m, e)
	}
	return both{m, newPlain(c)}
}

// copied is a copy, and its plain one.
func (x both) copied(t *testing.T) both {
	t.Helper()
	y := both{x.m.Copy(), x.p.twin()}
	if y.m == nil || y.m == x.m {
		t.Fatalf("Copy: %p of %p", y.m, x.m)
	}
	return y
}

// hold holds what Step tells against what it is to tell, and has done what becomes of both.
func (x both) hold(t *testing.T, call api.Call, r api.Result) bool {
	t.Helper()
	want := x.p.may(call, r)
	wasCall, wasResult := call, r
	wasCall.Bytes, wasResult.Bytes = bytes.Clone(call.Bytes), bytes.Clone(r.Bytes)
	if got := x.m.Step(call, r); got != want {
		t.Errorf("%d nodes: Step(%+v, %+v): %t", x.p.c.Nodes, call, r, got)
	}
	if !calls.Same(call, wasCall) || !calls.SameResult(r, wasResult) {
		t.Errorf("%d nodes: Step(%+v, %+v) wrote to what it was handed: %x, %x", x.p.c.Nodes, wasCall, wasResult, call.Bytes, r.Bytes)
	}
	if want {
		x.p.do(call, r)
	}
	return want
}

// done has the call done with an answer that may be, which is that there is no error.
func (x both) done(t *testing.T, call api.Call) uint64 {
	t.Helper()
	next := uint64(1)
	for x.p.ever[next] {
		next++
	}
	r := x.p.right(call, next)
	if r.Errno != api.OK || !x.hold(t, call, r) {
		t.Fatalf("%+v: %+v", call, r)
	}
	return r.Value
}

// want holds all that is looked at against the plain machine; of pages that are far from the ends, the middle and the beginning the bytes at their ends alone.
func (x both) want(t *testing.T, what string) {
	t.Helper()
	x.wantLooks(t, what, func(page int) bool { return slices.Contains(nearPages, page) })
}

// wantAll holds each byte of each page against the plain machine, too.
func (x both) wantAll(t *testing.T, what string) {
	t.Helper()
	x.wantLooks(t, what, func(int) bool { return true })
}

func (x both) wantLooks(t *testing.T, what string, near func(page int) bool) {
	t.Helper()
	for _, pid := range pidEdges {
		wantHas(t, what, x.m, pid, x.p.process(pid) != nil)
		for _, page := range pageEdges {
			wantRights(t, what, x.m, pid, page, 0, false)
			wantPolicy(t, what, x.m, pid, page, api.Policy{}, false)
		}
		for _, addr := range addrEdges {
			wantByte(t, what, x.m, pid, addr, 0, false)
		}
		if q := x.p.process(pid); q != nil {
			x.wantPages(t, what, pid, q, near)
			continue
		}
		for _, page := range nearPages {
			wantRights(t, what, x.m, pid, page, 0, false)
			wantPolicy(t, what, x.m, pid, page, api.Policy{}, false)
			wantByte(t, what, x.m, pid, page*pageBytes, 0, false)
			wantByte(t, what, x.m, pid, page*pageBytes+255, 0, false)
		}
	}
	x.wantObjects(t, what)
}

func (x both) wantPages(t *testing.T, what string, pid int, q *plainProcess, near func(page int) bool) {
	t.Helper()
	for page := range q.pages {
		its := &q.pages[page]
		wantRights(t, what, x.m, pid, page, its.rights, its.rights > 0)
		wantPolicy(t, what, x.m, pid, page, q.policyOf(page), true)
		step := pageBytes - 1
		if near(page) {
			step = 1
		}
		for at := 0; at < pageBytes; at += step {
			want := byte(0)
			if its.rights > 0 {
				want = its.bytes[at]
			}
			wantByte(t, what, x.m, pid, page*pageBytes+at, want, its.rights > 0)
		}
	}
}

func (x both) wantObjects(t *testing.T, what string) {
	t.Helper()
	var all []uint64
	for h, b := range x.p.objects {
		all = append(all, h)
		wantObject(t, what, x.m, h, b, true)
	}
	slices.Sort(all)
	if got := x.m.Objects(); !slices.Equal(got, all) {
		t.Errorf("%s: Objects: %v, not %v", what, got, all)
	}
	for h := range x.p.ever {
		if _, ok := x.p.objects[h]; !ok {
			wantObject(t, what, x.m, h, nil, false)
		}
	}
	for _, h := range handles {
		if !x.p.ever[h] {
			wantObject(t, what, x.m, h, nil, false)
		}
	}
}

// This one and those behind it are asked very often: they mark themselves as helpers only where they have something to tell.
func wantHas(t *testing.T, what string, m *model.Model, pid int, want bool) {
	if got := m.Has(pid); got != want {
		t.Helper()
		t.Errorf("%s: Has(%d): %t", what, pid, got)
	}
}

func wantRights(t *testing.T, what string, m *model.Model, pid, page int, want uint8, wantOK bool) {
	if got, ok := m.Rights(pid, page); got != want || ok != wantOK {
		t.Helper()
		t.Errorf("%s: Rights(%d, %d): %d, %t; not %d, %t", what, pid, page, got, ok, want, wantOK)
	}
}

func wantByte(t *testing.T, what string, m *model.Model, pid, addr int, want byte, wantOK bool) {
	if got, ok := m.Byte(pid, addr); got != want || ok != wantOK {
		t.Helper()
		t.Errorf("%s: Byte(%d, %d): %d, %t; not %d, %t", what, pid, addr, got, ok, want, wantOK)
	}
}

func wantPolicy(t *testing.T, what string, m *model.Model, pid, page int, want api.Policy, wantOK bool) {
	if got, ok := m.Policy(pid, page); got != want || ok != wantOK {
		t.Helper()
		t.Errorf("%s: Policy(%d, %d): %v, %t; not %v, %t", what, pid, page, got, ok, want, wantOK)
	}
}

func wantObject(t *testing.T, what string, m *model.Model, handle uint64, want []byte, wantOK bool) {
	if got, ok := m.Object(handle); !bytes.Equal(got, want) || ok != wantOK {
		t.Helper()
		t.Errorf("%s: Object(%d): %x, %t; not %x, %t", what, handle, got, ok, want, wantOK)
	}
}

// wantSame holds what Same tells against what it is to tell, both ways.
func wantSame(t *testing.T, what string, m, o *model.Model, want bool) {
	t.Helper()
	if got, back := m.Same(o), o.Same(m); got != want || back != want {
		t.Errorf("%s: Same: %t, the other way round %t", what, got, back)
	}
}

// machine is a config with so many nodes.
func machine(nodes int) api.Config {
	c := api.Config{Nodes: nodes, CPUs: 2, Slots: 3, Min: 1, Low: 2, High: 3}
	c.Home[1] = nodes - 1
	for a := range nodes {
		c.Frames[a] = 4 + a
		for b := range nodes {
			if a != b {
				c.Distance[a][b] = 10 + a + b
			}
		}
	}
	return c
}

// chance are numbers that look like chance, and are the same each time.
type chance uint64

// below is the next number, from 0 on, below n.
func (c *chance) below(n int) int {
	*c = *c*6364136223846793005 + 1442695040888963407
	return int(uint64(*c)>>33) % n
}

// oneOf is one of the list, by chance.
func oneOf[T any](c *chance, l []T) T {
	return l[c.below(len(l))]
}
