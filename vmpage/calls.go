package vmpage

import (
	"polder/api"
	"polder/refusals"
)

// call is what the calls of a kind do to each of their pages.
type call struct {
	kind   int
	fits   func(*page) bool // whether the page is as it must be
	change func(*page)
}

// Reserve makes free pages reserved.
func (s *System) Reserve(page, n int) api.Errno {
	return s.do(page, n, call{api.RfReserve, is(api.VmFree), become(api.VmReserved)})
}

// Release makes reserved pages free.
func (s *System) Release(page, n int) api.Errno {
	return s.do(page, n, call{api.RfRelease, is(api.VmReserved), become(api.VmFree)})
}

// Commit makes reserved pages committed.
func (s *System) Commit(page, n int) api.Errno {
	return s.do(page, n, call{api.RfCommit, is(api.VmReserved), become(api.VmCommitted)})
}

// Decommit makes committed pages reserved.
func (s *System) Decommit(page, n int) api.Errno {
	return s.do(page, n, call{api.RfDecommit, is(api.VmCommitted), become(api.VmReserved)})
}

// Protect makes reserved pages guards, and back.
func (s *System) Protect(page, n int, guard bool) api.Errno {
	if guard {
		return s.do(page, n, call{api.RfProtect, is(api.VmReserved), become(api.VmGuard)})
	}
	return s.do(page, n, call{api.RfProtect, is(api.VmGuard), become(api.VmReserved)})
}

// Join makes a huge page.
func (s *System) Join(page int) api.Errno {
	if e := s.checkGroup(page); e != api.OK {
		return e
	}
	if s.pages[page].huge { // and so are the other ones, which are all committed
		return api.ErrTwice
	}
	return s.do(page, api.HugePages, call{api.RfJoin, is(api.VmCommitted), setHuge(true)})
}

// Split makes a huge page single pages.
func (s *System) Split(page int) api.Errno {
	if e := s.checkGroup(page); e != api.OK {
		return e
	}
	return s.do(page, api.HugePages, call{api.RfSplit, isHuge, setHuge(false)})
}

// checkGroup returns what is wrong with s, or with the first page of a group.
func (s *System) checkGroup(page int) api.Errno {
	if !s.isMade() {
		return api.ErrNil
	}
	if !isGroup(page) {
		return api.ErrRange
	}
	return api.OK
}

// do does a call with n pages, unless it is refused.
func (s *System) do(from, n int, c call) api.Errno {
	if !s.isMade() {
		return api.ErrNil
	}
	if !arePages(from, n) {
		return api.ErrRange
	}
	for _, p := range s.span(from, n) {
		if !c.fits(p) {
			return api.ErrDown
		}
	}
	if s.refuses(c.kind) {
		return ErrRefused
	}
	for _, p := range s.span(from, n) {
		c.change(p)
	}
	return api.OK
}

// refuses counts a call of a kind, and reports whether it is refused.
func (s *System) refuses(kind int) bool {
	next, refused, e := refusals.Next(s.refusals, kind)
	if e != api.OK { // so many were made that no more are counted
		return false
	}
	s.refusals = next
	return refused
}

// is returns whether a page is of a kind, and of no huge page.
func is(kind int) func(*page) bool {
	return func(p *page) bool { return p.kind == kind && !p.huge }
}

func isHuge(p *page) bool { return p.huge }

// become makes a page one of a kind, with all bytes 0.
func become(kind int) func(*page) {
	return func(p *page) { *p = page{kind: kind} }
}

func setHuge(huge bool) func(*page) {
	return func(p *page) { p.huge = huge }
}
