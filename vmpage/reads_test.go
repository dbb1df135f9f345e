package vmpage_test

import (
	"math"
	"testing"

	"polder/api"
	"polder/vmpage"
)

// P6.5

func TestP6_5Range(t *testing.T) {
	var m plain
	for p := range m.kind {
		m.kind[p] = committed
	}
	for _, m := range []*plain{{}, &m} {
		s := load(t, m)
		for _, at := range []int64{math.MinInt64, math.MinInt64 + 1, -65536, -64, -1, 65536, 65537, 131072, 1 << 32, 1<<32 + 64, math.MaxInt64 - 63, math.MaxInt64} {
			if b, e := s.Read(at); b != 0 || e != api.ErrRange {
				t.Errorf("Read(%d): %d, %d", at, b, e)
			}
			want(t, s.Write(at, 1), api.ErrRange, "Write")
		}
		is(t, s, m)
	}
}

func TestP6_5All(t *testing.T) {
	for _, m := range mixed() {
		s := load(t, m)
		checkReads(t, s, m)
		for at := range int64(ends) {
			if e := s.Write(at, byte(at*5)); e != m.write(at, byte(at*5)) {
				t.Fatalf("Write(%d): %d", at, e)
			}
		}
		checkReads(t, s, m)
		is(t, s, m)
	}
}

// checkReads reads every byte.
func checkReads(t *testing.T, s *vmpage.System, m *plain) {
	t.Helper()
	for at := range int64(ends) {
		b, e := s.Read(at)
		if want, f := m.read(at); b != want || e != f {
			t.Fatalf("Read(%d): %d, %d, not %d, %d", at, b, e, want, f)
		}
	}
}

// Pages that are not committed cannot be accessed, also beside one that is.
func TestP6_5Faults(t *testing.T) {
	for kind := range 4 {
		for _, page := range []int{0, 1, 500, 1022, 1023} {
			var m plain
			for p := range m.kind {
				m.kind[p] = committed
			}
			m.kind[page] = kind
			s := load(t, &m)
			want := map[bool]api.Errno{true: api.OK, false: vmpage.ErrFault}[kind == committed]
			for at := int64(page * bytes); at < int64(page*bytes+bytes); at++ {
				if e := s.Write(at, 9); e != want {
					t.Errorf("Write(%d), kind %d: %d", at, kind, e)
				}
				if b, e := s.Read(at); (b == 9) != (kind == committed) || e != want {
					t.Errorf("Read(%d), kind %d: %d, %d", at, kind, b, e)
				}
			}
			for _, at := range []int{page*bytes - 1, page*bytes + bytes} {
				if _, e := s.Read(int64(at)); at >= 0 && at < ends && e != api.OK {
					t.Errorf("Read(%d): %d", at, e)
				}
			}
		}
	}
}

// Reading and writing are no calls that are counted.
func TestP6_5NotCounted(t *testing.T) {
	m := &plain{}
	m.kind[0] = committed
	for kind := range kinds {
		m.rules = append(m.rules, rule(kind, 1, 1, 0))
	}
	s := load(t, m)
	for range 5 {
		want(t, s.Write(3, 8), api.OK, "Write")
		if b, e := s.Read(3); b != 8 || e != api.OK {
			t.Errorf("Read: %d, %d", b, e)
		}
		s.Kind(0)
		s.Counts()
		s.Save()
	}
	m.data[3] = 8
	is(t, s, m)
}

// P6.6 and P6.9

func TestP6_6Kind(t *testing.T) {
	for _, m := range mixed() {
		s := load(t, m)
		for page := range all {
			if kind, huge, e := s.Kind(page); kind != m.kind[page] || huge != m.huge[page] || e != api.OK {
				t.Fatalf("Kind(%d): %d, %v, %d", page, kind, huge, e)
			}
		}
		for _, page := range append(odd(), 1024, -1) {
			if kind, huge, e := s.Kind(page); page != 0 && (kind != 0 || huge || e != api.ErrRange) {
				t.Errorf("Kind(%d): %d, %v, %d", page, kind, huge, e)
			}
		}
		is(t, s, m)
	}
}

func TestP6_6Counts(t *testing.T) {
	for _, m := range mixed() {
		s := load(t, m)
		if n, e := s.Counts(); n != m.counts() || e != api.OK {
			t.Fatalf("Counts: %v, %d, not %v", n, e, m.counts())
		}
		checkCounts(t, s)
	}
	s := start(t)
	if n, e := s.Counts(); n != (api.VmCounts{Free: 1024}) || e != api.OK {
		t.Errorf("Counts: %v, %d", n, e)
	}
}

// checkCounts holds what is counted against Kind of each page.
func checkCounts(t *testing.T, s *vmpage.System) {
	t.Helper()
	var of [4]int
	huge := 0
	for page := range all {
		kind, in, e := s.Kind(page)
		if e != api.OK || in && kind != committed {
			t.Fatalf("Kind(%d): %d, %v, %d", page, kind, in, e)
		}
		of[kind]++
		if in {
			huge++
		}
	}
	n, e := s.Counts()
	if n != (api.VmCounts{Free: of[free], Reserved: of[reserved], Committed: of[committed], Guards: of[guard], Huge: huge / group}) || huge%group != 0 || e != api.OK {
		t.Fatalf("Counts: %v, %d, not %v and %d pages of huge ones", n, e, of, huge)
	}
	if n.Free+n.Reserved+n.Committed+n.Guards != all {
		t.Fatalf("Counts: %v", n)
	}
}
