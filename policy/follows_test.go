package policy_test

import (
	"slices"
	"testing"

	"paddock/api"
	"paddock/policy"
)

// places are the root and all paths of up to so many names a and b.
func places(names int) []api.Path {
	out := []api.Path{nil}
	for i := 0; i < len(out); i++ {
		if len(out[i]) < names {
			out = append(out, append(slices.Clone(out[i]), "a"), append(slices.Clone(out[i]), "b"))
		}
	}
	return out
}

// some are policies over the places of two names: each set of them is Read of one, and another one's Write; in falling order, so that nothing is in normal form by chance.
func some() []api.Policy {
	all := places(2)
	set := func(bits int) (out []api.Path) {
		for i := len(all) - 1; i >= 0; i-- {
			if bits>>i&1 == 1 {
				out = append(out, all[i])
			}
		}
		return out
	}
	var out []api.Policy
	for bits := range 1 << len(all) {
		out = append(out, api.Policy{Read: set(bits), Write: set(bits * 37 % 128), Fuel: bits % 3, Memory: bits / 3 % 3, Output: bits / 9 % 3, Each: bits / 27 % 3})
	}
	return out
}

// allows tells whether one of a list begins a path.
func allows(l []api.Path, at api.Path) bool {
	for _, p := range l {
		if len(p) <= len(at) && slices.Equal(p, at[:len(p)]) {
			return true
		}
	}
	return false
}

// less tells whether a policy allows no more than another, path by path of its lists.
func less(a, b api.Policy) bool {
	for _, p := range a.Read {
		if !allows(b.Read, p) {
			return false
		}
	}
	for _, p := range a.Write {
		if !allows(b.Write, p) {
			return false
		}
	}
	return a.Fuel <= b.Fuel && a.Memory <= b.Memory && a.Output <= b.Output && a.Each <= b.Each
}

// 5.2, 5.7: May by its words, and that Normal, Print and Parse leave it as it is.
func TestOneByOne(t *testing.T) {
	for _, p := range some() {
		n, _ := policy.Normal(p)
		s, _ := policy.Print(p)
		q, why, _ := policy.Parse(s)
		if why != api.OK || !same(q, n) {
			t.Fatalf("5.7: %v is read as %v, %d", p, q, why)
		}
		for _, at := range places(3) {
			for _, write := range []bool{false, true} {
				want := allows(p.Read, at)
				if write {
					want = allows(p.Write, at)
				}
				if policy.May(p, write, at) != want || policy.May(n, write, at) != want || policy.May(q, write, at) != want {
					t.Fatalf("May(%v, %v, %q) is not %v", p, write, at, want)
				}
			}
		}
		if m, _ := policy.Meet(p, p); !same(m, n) {
			t.Fatalf("5.8: Meet(%v) with itself: %v", p, m)
		}
	}
}

// 5.3, 5.7, 5.8, 5.9: all pairs.
func TestPairs(t *testing.T) {
	all := some()
	var texts []string
	for _, p := range all {
		s, _ := policy.Print(p)
		texts = append(texts, s)
	}
	for i, a := range all {
		for j, b := range all {
			below, why := policy.Within(a, b)
			if below != less(a, b) || why != api.OK {
				t.Fatalf("Within(%v, %v) = %v", a, b, below)
			}
			if (texts[i] == texts[j]) != (less(a, b) && less(b, a)) {
				t.Fatalf("5.7: %v and %v are written as %q and %q", a, b, texts[i], texts[j])
			}
			m, why := policy.Meet(a, b)
			n, _ := policy.Meet(b, a)
			normal, _ := policy.Normal(m)
			if why != api.OK || !same(m, n) || !same(m, normal) || !less(m, a) || !less(m, b) {
				t.Fatalf("5.8: Meet(%v, %v) = %v, %d; the other way %v", a, b, m, why, n)
			}
			if m.Fuel != min(a.Fuel, b.Fuel) || m.Memory != min(a.Memory, b.Memory) || m.Output != min(a.Output, b.Output) || m.Each != min(a.Each, b.Each) {
				t.Fatalf("5.3: the quotas of Meet(%v, %v) = %v", a, b, m)
			}
			for _, at := range places(3) {
				ra, rb, wa, wb := allows(a.Read, at), allows(b.Read, at), allows(a.Write, at), allows(b.Write, at)
				if allows(m.Read, at) != (ra && rb) || allows(m.Write, at) != (wa && wb) {
					t.Fatalf("5.8: Meet(%v, %v) = %v at %q", a, b, m, at)
				}
				if below && (ra && !rb || wa && !wb) {
					t.Fatalf("5.9: Within(%v, %v), but not at %q", a, b, at)
				}
			}
		}
	}
}

// 5.8: what lies within both lies within what they meet in.
func TestGreatest(t *testing.T) {
	all := some()
	for i := 0; i < len(all); i += 3 {
		for j := 1; j < len(all); j += 3 {
			m, _ := policy.Meet(all[i], all[j])
			for _, c := range all {
				below, why := policy.Within(c, m)
				if why != api.OK || below != (less(c, all[i]) && less(c, all[j])) {
					t.Fatalf("Within(%v, Meet(%v, %v)) = %v", c, all[i], all[j], below)
				}
			}
		}
	}
}
