package posix_test

import (
	"slices"
	"strings"
	"testing"

	"paddock/api"
	"paddock/posix"
)

// P1: long texts, deep trees, and rounds within rounds: each call ends.
func TestLong(t *testing.T) {
	as := func(n int) string { return strings.Repeat("a", n) }
	for _, c := range []struct {
		e, s string
		want []api.Span
	}{
		{"a*", as(1 << 20), []api.Span{{From: 0, To: 1 << 20}}}, {"(a)*", as(1 << 18), []api.Span{{From: 0, To: 1 << 18}, {From: 1<<18 - 1, To: 1 << 18}}}, {"(a*)*", as(1 << 18), []api.Span{{From: 0, To: 1 << 18}, {From: 0, To: 1 << 18}}}, {"abc", as(1 << 20), nil}, {"a*b", as(1 << 17), nil}, {"(a*)*b", as(1 << 17), nil}, {"(a|aa)*b", as(1 << 16), nil}, {"(x+x+)+y", strings.Repeat("x", 1<<16), nil}, {"((a+)+)+b", as(1 << 16), nil},
		{"(.*)(.*)", as(1 << 16), []api.Span{{From: 0, To: 1 << 16}, {From: 0, To: 1 << 16}, {From: 1 << 16, To: 1 << 16}}}, {"(.*),(.*)", as(1<<15) + "," + as(1<<15), []api.Span{{From: 0, To: 1<<16 + 1}, {From: 0, To: 1 << 15}, {From: 1<<15 + 1, To: 1<<16 + 1}}},
		{"(a{255}){255}", as(255 * 255), []api.Span{{From: 0, To: 255 * 255}, {From: 254 * 255, To: 255 * 255}}}, {"(a{255}){255}", as(255*255 - 1), nil}, {"((a{255}){255}){255}", as(1000), nil}, {"(((a{0,255}){255}){255}){255}", as(100), []api.Span{{From: 0, To: 100}, {From: 100, To: 100}, {From: 100, To: 100}, {From: 100, To: 100}}}, {"((((()){255}){255}){255}){255}", "", slices.Repeat([]api.Span{{From: 0, To: 0}}, 6)}, {"((a*){255}){255}b", as(100), nil},
		{"(a)\\1", strings.Repeat("ab", 1<<15) + "aa", []api.Span{{From: 1 << 16, To: 1<<16 + 2}, {From: 1 << 16, To: 1<<16 + 1}}}, {"(a*)\\1b", as(300) + "b", []api.Span{{From: 0, To: 301}, {From: 0, To: 150}}}, {"((a)\\2?)*", as(1 << 12), []api.Span{{From: 0, To: 1 << 12}, {From: 1<<12 - 2, To: 1 << 12}, {From: 1<<12 - 2, To: 1<<12 - 1}}},
	} {
		l, ok, why := posix.Match(ere(t, c.e), c.s, 0, false)
		if why != api.OK || ok != (c.want != nil) || !slices.Equal(l, c.want) {
			t.Errorf("%s over %d bytes: %v, %v, %d", c.e, len(c.s), l, ok, why)
		}
	}
	for i, over := range []func(int, api.Node) api.Node{
		func(_ int, n api.Node) api.Node { return repeat(0, -1, n) }, func(_ int, n api.Node) api.Node { return repeat(1, -1, n) }, func(_ int, n api.Node) api.Node { return repeat(0, 1, n) }, func(_ int, n api.Node) api.Node { return repeat(1, 1, n) }, func(_ int, n api.Node) api.Node { return repeat(0, 255, n) },
	} {
		if l, ok, why := posix.Match(nest(api.MaxNodes-1, of("a"), over), "aaa", 0, false); !ok || why != api.OK || l[0].From != 0 || i != 2 && i != 3 && l[0].To != 3 {
			t.Error("deep", i, l, ok, why)
		}
	}
	deep := nest(api.MaxNodes-2, group(1, empty), func(_ int, n api.Node) api.Node { return repeat(255, 255, n) })
	if l, ok, why := posix.Match(deep, "a", 1, false); !ok || why != api.OK || !slices.Equal(l, []api.Span{{From: 1, To: 1}, {From: 1, To: 1}}) {
		t.Error("255 rounds of nothing, within one another:", l, ok, why)
	}
}

// P1, 9.4: many matches of a long text.
func TestManyMatches(t *testing.T) {
	const size = 1 << 16
	for e, s := range map[string]string{"(a)b": strings.Repeat("ab", size), "a|b*": strings.Repeat("a", size), "b": strings.Repeat("xb", size), "x*": strings.Repeat("a", size-1), "(.)\\1": strings.Repeat("xaa", size)} {
		if l, why := posix.All(ere(t, e), s, false); why != api.OK || len(l) != size {
			t.Errorf("All(%s) has %d, error %d", e, len(l), why)
		}
	}
}

// What was found out is given up when it is too much: so it makes no difference that it was.
func TestForgets(t *testing.T) {
	const size = 1500
	s := strings.Repeat("a", size) + "bac"
	l, ok, why := posix.Match(ere(t, "(a+)b\\1c"), s, 0, false)
	if want := []api.Span{{From: size - 1, To: size + 3}, {From: size - 1, To: size}}; !ok || why != api.OK || !slices.Equal(l, want) {
		t.Error(l, ok, why)
	}
}
