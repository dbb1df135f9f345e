package radixmap

import (
	"iter"

	"polder/api"
	"polder/bits"
)

// Get returns the description of a page.
func (m *Map) Get(page int) (api.RmDesc, api.Errno) {
	if !m.isMade() {
		return api.RmDesc{}, api.ErrNil
	}
	if page < 0 || page >= api.VmPages {
		return api.RmDesc{}, api.ErrRange
	}
	x := *m.word(page)
	if x == 0 {
		return api.RmDesc{}, api.ErrNone
	}
	return Unpack(x)
}

// Nodes returns how many nodes there are, the root included.
func (m *Map) Nodes() int {
	if !m.isMade() {
		return 0
	}
	n, _ := bits.Count(m.used, 0, m.used.N)
	return n
}

// Runs returns the longest runs of pages with one description, ascending.
func (m *Map) Runs() []api.RmRun {
	var runs []api.RmRun
	for page, d := range m.Walk(0) {
		last := len(runs) - 1
		if last >= 0 && runs[last].To == page && runs[last].Desc == d {
			runs[last].To++
		} else {
			runs = append(runs, api.RmRun{From: page, To: page + 1, Desc: d})
		}
	}
	return runs
}

// Owned returns the pages of an owner, ascending.
func (m *Map) Owned(owner int) ([]int, api.Errno) {
	if !m.isMade() {
		return nil, api.ErrNil
	}
	if owner < 0 || owner > api.MaxRmOwner {
		return nil, api.ErrRange
	}
	var pages []int
	for page, d := range m.Walk(0) {
		if d.Owner == owner {
			pages = append(pages, page)
		}
	}
	return pages, api.OK
}

// Walk yields the pages from from on that have a description, with it, ascending. Each is looked for when the one before it was yielded, so that the caller may change the map.
func (m *Map) Walk(from int) iter.Seq2[int, api.RmDesc] {
	next := m.next
	return func(yield func(int, api.RmDesc) bool) {
		if !m.isMade() {
			return
		}
		for page := next(max(from, 0)); page < api.VmPages; page = next(page + 1) {
			d, _ := Unpack(*m.word(page))
			if !yield(page, d) {
				return
			}
		}
	}
}

// next returns the first page from from on that has a description, and VmPages if there is none.
func (m *Map) next(from int) int {
	for page := from; page < api.VmPages; page++ {
		if *m.word(page) != 0 {
			return page
		}
	}
	return api.VmPages
}
