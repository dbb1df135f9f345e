package vmpage

import "polder/api"

// Read returns a byte.
func (s *System) Read(at int64) (byte, api.Errno) {
	b, e := s.byteAt(at)
	if e != api.OK {
		return 0, e
	}
	return *b, api.OK
}

// Write changes a byte.
func (s *System) Write(at int64, b byte) api.Errno {
	old, e := s.byteAt(at)
	if e != api.OK {
		return e
	}
	*old = b
	return api.OK
}

// Kind returns the kind of a page, and whether it is of a huge page.
func (s *System) Kind(page int) (kind int, huge bool, e api.Errno) {
	if !s.isMade() {
		return 0, false, api.ErrNil
	}
	if !isPage(page) {
		return 0, false, api.ErrRange
	}
	p := &s.pages[page]
	return p.kind, p.huge, api.OK
}

// Counts returns how many pages there are of each kind.
func (s *System) Counts() (api.VmCounts, api.Errno) {
	if !s.isMade() {
		return api.VmCounts{}, api.ErrNil
	}
	var kinds [api.VmGuard + 1]int
	for _, p := range s.all() {
		kinds[p.kind]++
	}
	return api.VmCounts{
		Free:      kinds[api.VmFree],
		Reserved:  kinds[api.VmReserved],
		Committed: kinds[api.VmCommitted],
		Guards:    kinds[api.VmGuard],
		Huge:      len(s.huge()),
	}, api.OK
}

// byteAt returns where the byte at an address is.
func (s *System) byteAt(at int64) (*byte, api.Errno) {
	if !s.isMade() {
		return nil, api.ErrNil
	}
	if at < 0 || at >= api.VmPages*api.PageBytes {
		return nil, api.ErrRange
	}
	p := &s.pages[at/api.PageBytes]
	if p.kind != api.VmCommitted {
		return nil, ErrFault
	}
	return &p.bytes[at%api.PageBytes], api.OK
}
