package policy_test

import (
	"math"
	"slices"
	"strconv"
	"strings"
	"testing"

	"paddock/api"
	"paddock/policy"
	"paddock/wood"
)

// prefixes are paths of which the texts stand between semicolons; of / the root.
func prefixes(s string) []api.Path {
	if s == "" {
		return nil
	}
	return wood.Paths(strings.Split(s, ";")...)
}

// of is a policy with these prefixes and, as far as they are told, quotas: fuel, memory, output, each.
func of(read, write string, quotas ...int) api.Policy {
	q := append(quotas, 0, 0, 0, 0)
	return api.Policy{Read: prefixes(read), Write: prefixes(write), Fuel: q[0], Memory: q[1], Output: q[2], Each: q[3]}
}

// same tells whether two policies are one, by itself.
func same(a, b api.Policy) bool {
	paths := func(a, b []api.Path) bool {
		return slices.EqualFunc(a, b, func(p, q api.Path) bool { return slices.Equal(p, q) })
	}
	return paths(a.Read, b.Read) && paths(a.Write, b.Write) && a.Fuel == b.Fuel && a.Memory == b.Memory && a.Output == b.Output && a.Each == b.Each
}

// many are so many paths, a folder and a number each.
func many(folder string, n int) []api.Path {
	var out []api.Path
	for i := range n {
		out = append(out, append(wood.Path(folder), strconv.Itoa(i)))
	}
	return out
}

// rightOnes are policies at the edges of what may be.
func rightOnes() []api.Policy {
	long := api.Path{strings.Repeat("n", api.MaxName)}
	return []api.Policy{
		{}, {Read: []api.Path{}, Write: []api.Path{{}}}, of("/;a;a b", "a b;a"), of("", "", 1, 2, 3, 4),
		of("", "", api.MaxNumber, api.MaxMemory, api.MaxQuota, api.MaxQuota),
		{Read: many("", api.MaxFiles), Write: many("a b", api.MaxFiles)},
		{Read: slices.Repeat(wood.Paths("a"), api.MaxFiles)},
		{Read: []api.Path{long}, Write: []api.Path{slices.Repeat(long, 4)}},
		{Write: []api.Path{{" ", "\"\n\xff", "..."}}},
	}
}

// wrongOnes are policies that may not be, each by one thing.
func wrongOnes() []api.Policy {
	out := []api.Policy{
		{Read: many("", api.MaxFiles+1)}, {Write: many("", api.MaxFiles+1)},
		{Read: slices.Repeat(wood.Paths("a"), api.MaxFiles+1)},
		{Fuel: api.MaxNumber + 1}, {Memory: api.MaxMemory + 1}, {Output: api.MaxQuota + 1}, {Each: api.MaxQuota + 1},
	}
	for _, n := range []int{-1, math.MinInt, math.MaxInt} {
		out = append(out, of("", "", n), of("", "", 0, n), of("", "", 0, 0, n), of("", "", 0, 0, 0, n))
	}
	long := strings.Repeat("n", api.MaxName)
	for _, p := range []api.Path{{".."}, {"."}, {""}, {"a", ""}, {"a/b"}, {"a\x00"}, {long + "n"}, {long, long, long, long[1:], "n"}} {
		out = append(out, api.Policy{Read: []api.Path{{"a"}, p}}, api.Policy{Write: []api.Path{p, {"a"}}})
	}
	return out
}

// 5.1
func TestCheck(t *testing.T) {
	for _, p := range rightOnes() {
		if why := policy.Check(p); why != api.OK {
			t.Errorf("Check(%.80v) = %d", p, why)
		}
	}
	for _, p := range wrongOnes() {
		if why := policy.Check(p); why != api.ErrPolicy {
			t.Errorf("Check(%.80v) = %d", p, why)
		}
	}
}

// 5.1, 5.2, 5.3, 5.5, P2: of a policy that is not right nothing is told but the error, on whichever side it stands.
func TestWrongPolicies(t *testing.T) {
	for _, p := range wrongOnes() {
		if q, why := policy.Normal(p); why != api.ErrPolicy || !same(q, api.Policy{}) {
			t.Errorf("Normal(%.80v) = %.80v, %d", p, q, why)
		}
		if s, why := policy.Print(p); why != api.ErrPolicy || s != "" {
			t.Errorf("Print(%.80v) = %.80q, %d", p, s, why)
		}
		for _, write := range []bool{false, true} {
			for _, at := range wood.Paths("/", "a", "0", "0 0") {
				if policy.May(p, write, at) {
					t.Errorf("May(%.80v, %v, %q)", p, write, at)
				}
			}
		}
		for _, right := range rightOnes() {
			for _, both := range [][2]api.Policy{{p, right}, {right, p}, {p, p}} {
				if q, why := policy.Meet(both[0], both[1]); why != api.ErrPolicy || !same(q, api.Policy{}) {
					t.Errorf("Meet(%.80v) = %.80v, %d", both, q, why)
				}
				if yes, why := policy.Within(both[0], both[1]); why != api.ErrPolicy || yes {
					t.Errorf("Within(%.80v) = %v, %d", both, yes, why)
				}
			}
		}
	}
}

// 5.1
func TestNormal(t *testing.T) {
	for _, c := range []struct{ p, want api.Policy }{
		{of("", ""), of("", "")}, {of("a;a b", "tmp", 100), of("a", "tmp", 100)}, {of("b;a;b;a", "a b;c;a", 1, 2, 3, 4), of("a;b", "a;c", 1, 2, 3, 4)},
		{of("a;/;b", "b a;a b;ab"), of("/", "a b;ab;b a")},
		{of("a b;a", "", api.MaxNumber, api.MaxMemory, api.MaxQuota, api.MaxQuota), of("a", "", api.MaxNumber, api.MaxMemory, api.MaxQuota, api.MaxQuota)},
	} {
		if q, why := policy.Normal(c.p); why != api.OK || !same(q, c.want) {
			t.Errorf("Normal(%v) = %v, %d", c.p, q, why)
		}
	}
}

// 5.1: each field counts, the order too, and nothing need be right.
func TestSame(t *testing.T) {
	ones := []api.Policy{
		of("", ""), of("/", ""), of("", "/"), of("a", ""), of("", "a"), of("a;b", ""), of("b;a", ""), of("a b", ""), of("a;a", ""), of("a", "a"), of("", "a;b"), of("", "b;a"),
		{Fuel: 1}, {Memory: 1}, {Output: 1}, {Each: 1}, {Fuel: -1}, {Fuel: math.MaxInt}, {Each: math.MinInt},
		{Read: []api.Path{{".."}}}, {Read: []api.Path{{"", ""}}}, {Read: []api.Path{{""}}}, {Write: many("", api.MaxFiles+1)}, {Write: many("", api.MaxFiles+2)},
	}
	for i, a := range ones {
		for j, b := range ones {
			copied := api.Policy{Read: slices.Clone(b.Read), Write: slices.Clone(b.Write), Fuel: b.Fuel, Memory: b.Memory, Output: b.Output, Each: b.Each}
			if policy.Same(a, copied) != (i == j) {
				t.Errorf("Same(%.80v, %.80v) = %v", a, b, i != j)
			}
		}
	}
	if !policy.Same(api.Policy{Read: []api.Path{}, Write: []api.Path{nil}}, api.Policy{Write: []api.Path{{}}}) {
		t.Error("nil and empty lists are not alike")
	}
}

// 5.2
func TestMay(t *testing.T) {
	p := of("a;a b;d e", "tmp;d", 100)
	for _, c := range []struct {
		write bool
		at    string
		want  bool
	}{
		{false, "a c", true}, {true, "a c", false}, {true, "tmp", true}, {false, "tmp", false}, {false, "a", true}, {false, "a b c", true}, {false, "ab", false}, {false, "/", false}, {true, "/", false},
		{false, "d", false}, {true, "d", true}, {false, "d e", true}, {true, "d e", true}, {true, "d f g", true}, {false, "d f", false}, {true, "tmp2", false},
	} {
		if got := policy.May(p, c.write, wood.Paths(c.at)[0]); got != c.want {
			t.Errorf("May(%v, %q) = %v", c.write, c.at, got)
		}
	}
	all := of("/", "/")
	for _, wrong := range []api.Path{{".."}, {"a", "."}, {""}, {"a/b"}, {strings.Repeat("n", api.MaxName+1)}} {
		if policy.May(all, false, wrong) || policy.May(all, true, wrong) {
			t.Errorf("May(%.20q)", wrong)
		}
	}
	if !policy.May(all, false, nil) || !policy.May(all, true, api.Path{"a"}) || policy.May(api.Policy{}, false, nil) {
		t.Error("May at the root")
	}
}

// 5.3: the examples and the edges.
func TestMeet(t *testing.T) {
	for _, c := range []struct{ a, b, want api.Policy }{
		{of("a;c", ""), of("a b;d", ""), of("a b", "")},
		{of("", "a;c"), of("", "a b;d"), of("", "a b")},
		{of("a;c", "a"), of("", ""), of("", "")},
		{of("a", ""), of("", "a"), of("", "")},
		{of("/", "a b"), of("c;a", "/"), of("a;c", "a b")},
		{of("a;b b;b", "x;y;z"), of("b b;b c;a a;a", "z z;y;w"), of("a;b b;b c", "y;z z")},
		{of("ab", ""), of("a", ""), of("", "")},
		{of("", "", 1, 20, 3, 40), of("", "", 10, 2, 30, 4), of("", "", 1, 2, 3, 4)},
	} {
		for _, both := range [][2]api.Policy{{c.a, c.b}, {c.b, c.a}} {
			if q, why := policy.Meet(both[0], both[1]); why != api.OK || !same(q, c.want) {
				t.Errorf("Meet(%v) = %v, %d", both, q, why)
			}
		}
	}
}

// 5.3, the limit: each side has k paths below the one path of the other side.
func TestMeetMany(t *testing.T) {
	crossed := func(k, l int) ([]api.Path, []api.Path) {
		return append(many("a", k), wood.Path("b")), append(many("b", l), wood.Path("a"))
	}
	for _, c := range []struct {
		k, l int
		why  api.Errno
	}{
		{512, 512, api.OK}, {512, 513, api.ErrMany}, {1, api.MaxFiles - 1, api.OK}, {2, api.MaxFiles - 1, api.ErrMany}, {api.MaxFiles - 1, api.MaxFiles - 1, api.ErrMany},
	} {
		x, y := crossed(c.k, c.l)
		for _, both := range [][2]api.Policy{{{Read: x, Fuel: 1}, {Read: y, Fuel: 1}}, {{Write: y, Fuel: 1}, {Write: x, Fuel: 1}}} {
			q, why := policy.Meet(both[0], both[1])
			if why != c.why || why == api.OK && len(q.Read)+len(q.Write) != c.k+c.l || why != api.OK && !same(q, api.Policy{}) {
				t.Errorf("Meet of %d and %d: %.80v, %d", c.k, c.l, q, why)
			}
		}
	}
	// Only what is left counts: all paths of both sides are the same.
	l := many("", api.MaxFiles)
	if q, why := policy.Meet(api.Policy{Read: l, Write: l}, api.Policy{Read: l, Write: l}); why != api.OK || len(q.Read) != api.MaxFiles || len(q.Write) != api.MaxFiles {
		t.Errorf("Meet of one with itself: %d", why)
	}
}

// 5.3
func TestWithin(t *testing.T) {
	big := of("a;c", "d", 5, 5, 5, 5)
	for _, c := range []struct {
		a, b api.Policy
		want bool
	}{
		{of("a b", ""), of("a;c", ""), true}, {of("a;c", ""), of("a b", ""), false}, {of("", ""), of("", ""), true}, {of("", ""), big, true}, {big, big, true}, {big, of("", ""), false},
		{of("a", "d", 5, 5, 5, 5), big, true}, {of("c;a b;a", "d;d e", 5, 4, 3, 2), big, true}, {of("a;b", ""), big, false}, {of("", "a"), big, false}, {of("d", ""), big, false}, {of("", "d;c"), big, false}, {of("/", ""), big, false}, {of("", "/"), big, false}, {of("ac", ""), big, false},
		{of("", "", 6), big, false}, {of("", "", 0, 6), big, false}, {of("", "", 0, 0, 6), big, false}, {of("", "", 0, 0, 0, 6), big, false}, {of("x", "y"), of("/", "/"), true},
	} {
		if got, why := policy.Within(c.a, c.b); got != c.want || why != api.OK {
			t.Errorf("Within(%v, %v) = %v, %d", c.a, c.b, got, why)
		}
	}
}
