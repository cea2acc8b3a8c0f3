package model

import (
	"maps"
	"slices"

	"byre/api"
	"byre/areas"
)

// Rights that a page may have.
const (
	readRight  = 1
	writeRight = 2
)

// content is the bytes of a page.
type content [api.FrameSize]byte

// process is one that is there.
type process struct {
	areas    *areas.Areas
	policy   api.Policy
	policies map[int]api.Policy // of pages that have one of their own
	pages    map[int]content    // of pages that were stored to: of all others the map tells noughts, as it is to be
}

// newProcess makes one without pages, whose policy is PolicyLocal.
func newProcess() *process {
	return &process{areas: areas.New(), policies: map[int]api.Policy{}, pages: map[int]content{}}
}

// copied is another process that is the same.
func (p *process) copied() *process {
	return &process{areas: p.areas.Copy(), policy: p.policy, policies: maps.Clone(p.policies), pages: maps.Clone(p.pages)}
}

// same tells whether all that can be looked at is alike in both processes; each may be nil, if it is not there.
func (p *process) same(q *process) bool {
	if p == nil || q == nil {
		return p == q
	}
	for page := range api.MaxPages {
		if p.policyOf(page) != q.policyOf(page) || p.pages[page] != q.pages[page] {
			return false
		}
	}
	return slices.Equal(slices.Collect(p.areas.Runs()), slices.Collect(q.areas.Runs()))
}

// policyOf is the page's own policy, or else the process'.
func (p *process) policyOf(page int) api.Policy {
	if own, ok := p.policies[page]; ok {
		return own
	}
	return p.policy
}

// refusal is the first error that the process has for the call, api.OK if it has none.
func (p *process) refusal(x api.Call) api.Errno {
	switch x.Kind {
	case api.CallMmap, api.CallMunmap, api.CallMprotect:
		// Areas tell their errors by being turned, and what is only asked is to stay as it is.
		return turn(p.areas.Copy(), x)
	case api.CallMlock, api.CallMunlock, api.CallMbind, api.CallMovePages:
		return p.areas.Mapped(x.Page, x.Count)
	case api.CallWhere:
		return p.areas.Mapped(x.Page, 1)
	case api.CallLoad:
		return p.accessRefusal(x.Addr, readRight)
	case api.CallStore:
		return p.accessRefusal(x.Addr, writeRight)
	}
	return api.OK
}

// accessRefusal is the refusal of a call that wants the right at the address.
func (p *process) accessRefusal(addr int, want uint8) api.Errno {
	page, _ := place(addr)
	rights, mapped := p.areas.Rights(page)
	if !mapped {
		return api.ErrNone
	}
	if rights&want == 0 {
		return api.ErrRights
	}
	return api.OK
}

// become makes of the process what a call makes of it that is not refused.
func (p *process) become(x api.Call) {
	switch x.Kind {
	case api.CallMmap, api.CallMprotect:
		turn(p.areas, x)
	case api.CallMunmap:
		turn(p.areas, x)
		for i := range x.Count {
			delete(p.pages, x.Page+i)
			delete(p.policies, x.Page+i)
		}
	case api.CallStore:
		p.store(x.Addr, x.Bytes)
	case api.CallSetPolicy:
		p.policy = x.Policy
	case api.CallMbind:
		for i := range x.Count {
			p.policies[x.Page+i] = x.Policy
		}
	}
}

// load is size bytes from addr on, all of one page.
func (p *process) load(addr, size int) []byte {
	page, at := place(addr)
	its := p.pages[page]
	return its[at : at+size]
}

// store makes the bytes from addr on b, all of one page.
func (p *process) store(addr int, b []byte) {
	page, at := place(addr)
	its := p.pages[page]
	copy(its[at:], b)
	p.pages[page] = its
}

// turn makes of the areas what the call makes of them.
func turn(a *areas.Areas, x api.Call) api.Errno {
	switch x.Kind {
	case api.CallMmap:
		return a.Map(x.Page, x.Count, x.Rights)
	case api.CallMunmap:
		return a.Unmap(x.Page, x.Count)
	}
	return a.Protect(x.Page, x.Count, x.Rights)
}

// place is which page has the byte at addr, and where in it.
func place(addr int) (page, at int) {
	return addr / api.FrameSize, addr % api.FrameSize
}
