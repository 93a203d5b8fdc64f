package deriv_test

import (
	"math/rand"
	"strings"
	"testing"

	"paddock/api"
	"paddock/deriv"
	"paddock/posix"
	"paddock/twigs"
)

// P12.3, P12.4: the chapter's examples, and others by hand.
func TestExamples(t *testing.T) {
	for _, c := range []struct {
		a, b string
		ok   bool
		s    string
	}{
		{"a|b", "[ab]", true, ""}, {"a*", "a+", false, ""}, {"(ab)*a", "a(ba)*", true, ""}, {"a{0,3}", "a*", false, "aaaa"}, {"a|b", "a|c", false, "b"}, {"", "", true, ""}, {"", "a", false, ""}, {"a", "b", false, "a"}, {"b", "a", false, "a"}, {"a|bb", "a|b", false, "b"}, {"ba|ab", "ba", false, "ab"}, {"[^a]", "[^b]", false, "a"}, {".", "[^\xff]", false, "\xff"}, {"[\x80-\xff]x|y", "y", false, "\x80x"},
	} {
		if ok, s, why := deriv.Equal(ere(t, c.a), ere(t, c.b)); ok != c.ok || s != c.s || why != api.OK {
			t.Errorf("Equal(%s, %s) = %v, %q, %d", c.a, c.b, ok, s, why)
		}
	}
	for _, c := range []struct {
		a, b string
		ok   bool
		s    string
	}{
		{"ab*", "a.*", true, ""}, {"a.*", "ab*", false, "a\x00"}, {"a*", "a+", false, ""}, {"a+", "a*", true, ""}, {"a|b|ca", "a|b", false, "ca"}, {"b|a", "c", false, "a"},
	} {
		if ok, s, why := deriv.Within(ere(t, c.a), ere(t, c.b)); ok != c.ok || s != c.s || why != api.OK {
			t.Errorf("Within(%s, %s) = %v, %q, %d", c.a, c.b, ok, s, why)
		}
	}
	for _, c := range []struct {
		a, b, s string
		ok      bool
	}{
		{"a*b", ".{3}", "aab", true}, {"a+", "b+", "", false}, {"a*", "b*", "", true}, {"(aa)+", "(aaa)+", "aaaaaa", true}, {"[b-z]+", "[a-c]*d", "d", true}, {"b*ab*", "a*ba*", "ab", true},
	} {
		if s, ok, why := deriv.Common(ere(t, c.a), ere(t, c.b)); ok != c.ok || s != c.s || why != api.OK {
			t.Errorf("Common(%s, %s) = %q, %v, %d", c.a, c.b, s, ok, why)
		}
	}
	for e, want := range map[string]string{"b|aa|a": "a", "": "", "x*": "", "bb|ba|ab": "ab", "[^a]": "\x00", "[\xfe\xff]{2}": "\xfe\xfe"} {
		if s, ok, why := deriv.Shortest(ere(t, e)); !ok || s != want || why != api.OK {
			t.Errorf("Shortest(%s) = %q, %v, %d", e, s, ok, why)
		}
	}
	if s, ok, why := deriv.Shortest(of("")); ok || s != "" || why != api.OK {
		t.Errorf("Shortest of nothing = %q, %v, %d", s, ok, why)
	}
	if ok, why := deriv.Accepts(ere(t, "a|ab"), "ab"); !ok || why != api.OK {
		t.Error("Accepts:", ok, why)
	}
}

// P12.4: the chapter's examples, and others by hand.
func TestExtents(t *testing.T) {
	none := of("")
	for i, c := range []struct {
		n           api.Node
		least, most int
		ok          bool
		first       string
	}{
		{ere(t, "a|bcd"), 1, 3, true, "ab"}, {ere(t, "a*"), 0, -1, true, "a"}, {ere(t, "a{2}b?"), 2, 3, true, "a"}, {ere(t, "a*b"), 1, -1, true, "ab"}, {alt(cat(of("a"), none), of("c")), 1, 1, true, "c"}, {alt(cat(repeat(0, -1, of("a")), none), of("c")), 1, 1, true, "c"},
		{none, 0, 0, false, ""}, {empty, 0, 0, true, ""}, {cat(of("a"), none), 0, 0, false, ""}, {cat(none, of("a")), 0, 0, false, ""}, {cat(repeat(0, -1, of("a")), none), 0, 0, false, ""}, {alt(none, none), 0, 0, false, ""}, {alt(none, empty), 0, 0, true, ""}, {alt(empty, none), 0, 0, true, ""}, {repeat(0, -1, none), 0, 0, true, ""}, {repeat(1, -1, none), 0, 0, false, ""}, {repeat(0, 5, none), 0, 0, true, ""}, {repeat(2, 5, none), 0, 0, false, ""},
		{repeat(0, -1, empty), 0, 0, true, ""}, {repeat(3, -1, empty), 0, 0, true, ""}, {repeat(0, 0, of("a")), 0, 0, true, ""}, {repeat(0, 0, none), 0, 0, true, ""}, {repeat(0, 0, repeat(0, -1, of("a"))), 0, 0, true, ""}, {repeat(3, 3, repeat(0, -1, of("a"))), 0, -1, true, "a"}, {repeat(2, 4, alt(of("a"), ere(t, "bcd"))), 2, 12, true, "ab"}, {repeat(2, -1, ere(t, "ab?")), 2, -1, true, "a"}, {cat(repeat(0, -1, of("a")), of("b")), 1, -1, true, "ab"}, {ere(t, "(a?b?){2}c"), 1, 5, true, "abc"}, {alt(repeat(0, -1, of("a")), ere(t, "bbb")), 0, -1, true, "ab"}, {alt(ere(t, "bbb"), repeat(1, -1, of("a"))), 1, -1, true, "ab"}, {ere(t, "a?(bc|)d{0,2}"), 0, 5, true, "abd"}, {cat(repeat(0, -1, of("a")), of("b"), of("c")), 2, -1, true, "ab"}, {ere(t, "[^b-\xff]"), 1, 1, true, func() string {
			var all []byte
			for c := range byte('b') {
				all = append(all, c)
			}
			return string(all)
		}()},
		{repeat(0, 0, nest(60, of("a"), func(_ int, n api.Node) api.Node { return repeat(255, 255, n) })), 0, 0, true, ""}, {cat(of("x"), repeat(0, 0, nest(9, of("a"), func(_ int, n api.Node) api.Node { return repeat(200, 255, n) }))), 1, 1, true, "x"}, {nest(60, empty, func(_ int, n api.Node) api.Node { return repeat(255, 255, n) }), 0, 0, true, ""}, {sized(api.MaxProg), api.MaxProg - 1, api.MaxProg - 1, true, "a"},
	} {
		least, most, ok, why := deriv.Lengths(c.n)
		if least != c.least || most != c.most || ok != c.ok || why != api.OK {
			t.Errorf("%d: Lengths = %d, %d, %v, %d; not %d, %d, %v", i, least, most, ok, why, c.least, c.most, c.ok)
		}
		if s, why := deriv.First(c.n); s != of(c.first).Set || why != api.OK {
			t.Errorf("%d: First = %v, %d; not %q", i, s, why, c.first)
		}
	}
}

// suches are what pairs must be, and the calls that ask for it, each told as the first such text.
func suches() map[string]struct {
	such func(a, b bool) bool
	ask  func(a, b api.Node) (string, bool, api.Errno)
} {
	type ask = func(a, b api.Node) (string, bool, api.Errno)
	not := func(holds func(a, b api.Node) (bool, string, api.Errno)) ask {
		return func(a, b api.Node) (string, bool, api.Errno) {
			ok, s, why := holds(a, b)
			return s, !ok && why == api.OK, why
		}
	}
	return map[string]struct {
		such func(a, b bool) bool
		ask  func(a, b api.Node) (string, bool, api.Errno)
	}{
		"Equal":  {func(a, b bool) bool { return a != b }, not(deriv.Equal)},
		"Within": {func(a, b bool) bool { return a && !b }, not(deriv.Within)},
		"Common": {func(a, b bool) bool { return a && b }, deriv.Common},
	}
}

// checkPair holds Equal, Within, Common and Shortest against the words, and tells how many pairs there are.
func checkPair(t *testing.T, a, b api.Node) int {
	t.Helper()
	p, q := wordsOf(t, a), wordsOf(t, b)
	count := 0
	for name, x := range suches() {
		want, is, n := firstText(p, q, api.MaxPairs, x.such)
		if s, ok, why := x.ask(a, b); s != want || ok != is || why != api.OK {
			t.Fatalf("%s(%s, %s) = %q, %v, %d; not %q, %v", name, show(a), show(b), s, ok, why, want, is)
		}
		count = n
	}
	return count
}

// checkOne holds Lengths, First and Shortest of an expression against the words.
func checkOne(t *testing.T, n api.Node) {
	t.Helper()
	w := wordsOf(t, n)
	least, most, some := w.lengths()
	if l, m, ok, why := deriv.Lengths(n); l != least || m != most || ok != some || why != api.OK {
		t.Fatalf("Lengths(%s) = %d, %d, %v, %d; not %d, %d, %v", show(n), l, m, ok, why, least, most, some)
	}
	if s, why := deriv.First(n); s != w.firsts() || why != api.OK {
		t.Fatalf("First(%s) = %v, %d", show(n), s, why)
	}
	s, ok, why := deriv.Shortest(n)
	if want, is, _ := firstText(w, w, api.MaxPairs, suches()["Common"].such); s != want || ok != is || why != api.OK || ok != some || ok && len(s) != least {
		t.Fatalf("Shortest(%s) = %q, %v, %d; not %q", show(n), s, ok, why, want)
	}
}

// P12.3, P12.4: small expressions, by the words.
func TestSmall(t *testing.T) {
	leaves := []api.Node{of("a"), of("ab"), of(""), empty}
	bounds := [][2]int{{0, -1}, {1, -1}, {0, 0}, {2, 2}, {0, 2}, {1, 3}}
	var last api.Node = empty
	for size := 1; size <= 5; size++ {
		for i, n := range trees(size, leaves, bounds) {
			if size == 4 && i%7 != 0 || size == 5 && i%401 != 0 {
				continue
			}
			checkOne(t, n)
			checkPair(t, n, last)
			last = n
		}
	}
}

// P12.3, P12.4: grown expressions, by the words.
func TestGrown(t *testing.T) {
	chance := rand.New(rand.NewSource(123))
	most := 0
	for i := range 200 {
		a, b := grow(chance.Intn, 2+i%20), grow(chance.Intn, 2+i%13)
		checkOne(t, a)
		most = max(most, checkPair(t, a, b))
		c, _ := numbered(cat(alt(a, of("b")), b))
		checkPair(t, c, a)
	}
	if most < 10 {
		t.Error("only a few pairs:", most)
	}
}

// P12.2: what is accepted is what is meant.
func TestAccepts(t *testing.T) {
	chance := rand.New(rand.NewSource(122))
	taken := 0
	for i := range 3000 {
		n := grow(chance.Intn, 2+i%20)
		s := text(chance.Intn, "ab", 4)
		want, _ := posix.Whole(n, s, api.Span{From: 0, To: len(s)}, false)
		if accepts(t, n, s) != want {
			t.Fatalf("Accepts(%s, %q) is not %v", show(n), s, want)
		}
		if want {
			taken++
		}
	}
	if taken < 300 {
		t.Error("only a few:", taken)
	}
}

// as is an expression of so many a, at most 255 times 255.
func as(n int) api.Node {
	return cat(repeat(n/255, n/255, repeat(255, 255, of("a"))), repeat(n%255, n%255, of("a")))
}

// P12.3: MaxPairs, at it and one past it: what is found among the first ones is told, however many there are.
func TestLimits(t *testing.T) {
	const most = api.MaxPairs
	text := func(n int) string { return strings.Repeat("a", n) }
	x := suches()
	for i, c := range []struct {
		call string
		a, b api.Node
		s    string
		ok   bool
		why  api.Errno
	}{
		{"Equal", as(most - 1), as(most - 1), "", false, api.OK}, {"Equal", as(most), as(most), "", false, api.ErrMany}, {"Within", as(most - 1), as(most - 1), "", false, api.OK}, {"Within", as(most), as(most), "", false, api.ErrMany},
		{"Common", as(most - 1), as(most - 1), text(most - 1), true, api.OK}, {"Common", as(most), as(most), "", false, api.ErrMany}, {"Common", as(most - 1), as(most - 2), "", false, api.OK}, {"Common", as(most), as(most - 1), "", false, api.ErrMany},
		{"Equal", as(most), as(most - 1), text(most - 1), true, api.OK}, {"Equal", as(most), as(most + 1), "", false, api.ErrMany}, {"Equal", as(most - 1), as(most + 1), text(most - 1), true, api.OK}, {"Within", as(most - 1), as(most), text(most - 1), true, api.OK}, {"Within", as(most), as(most - 1), "", false, api.ErrMany},
		{"Equal", alt(as(most+5), of("b")), alt(as(most+5), of("c")), "b", true, api.OK}, {"Common", alt(as(most+5), of("b")), alt(as(most), of("b")), "b", true, api.OK}, {"Equal", sized(api.MaxProg), sized(api.MaxProg), "", false, api.ErrMany},
		// a situation for each choice of the last thirteen letters, or of the last ten
		{"Equal", ere(t, "[ab]*a[ab]{12}"), ere(t, "(a|b)*a(a|b){12}"), "", false, api.ErrMany}, {"Equal", ere(t, "[ab]*a[ab]{12}"), ere(t, "(a|b)*a(a|b){12}|b"), "b", true, api.OK}, {"Equal", ere(t, "[ab]*a[ab]{9}"), ere(t, "(a|b)*a(a|b){9}"), "", false, api.OK},
	} {
		if s, ok, why := x[c.call].ask(c.a, c.b); s != c.s || ok != c.ok || why != c.why {
			t.Errorf("%d: %s = %d bytes, %v, %d", i, c.call, len(s), ok, why)
		}
	}
	if s, ok, why := deriv.Shortest(as(most - 1)); s != text(most-1) || !ok || why != api.OK {
		t.Error("Shortest at the limit:", len(s), ok, why)
	}
	if s, ok, why := deriv.Shortest(as(most)); s != "" || ok || why != api.ErrMany {
		t.Error("Shortest past the limit:", len(s), ok, why)
	}
}

// P12.1: an expression's errors, which one comes first, of one and of two; nothing stands beside them.
func TestErrors(t *testing.T) {
	wrong, great := api.Node{}, sized(api.MaxProg+1)
	twice := cat(group(1, of("a")), back(1))
	never, neverEnd := cat(group(1, empty), repeat(0, 0, back(1))), repeat(0, 0, cat(empty, end))
	errors := []struct {
		n    api.Node
		want api.Errno
	}{
		{wrong, api.ErrNode}, {back(1), api.ErrNode}, {cat(begin, wrong), api.ErrNode}, {great, api.ErrMany}, {cat(begin, great), api.ErrMany}, {cat(twice, great), api.ErrMany}, {cat(great, wrong), api.ErrNode}, {twigs.Nest(api.MaxNodes, empty, func(_ int, n api.Node) api.Node { return repeat(1, 1, n) }), api.ErrMany},
		{twice, api.ErrBacks}, {never, api.ErrBacks}, {cat(begin, twice, end), api.ErrBacks}, {begin, api.ErrAnchor}, {end, api.ErrAnchor}, {ere(t, "^a"), api.ErrAnchor}, {ere(t, "(a|b$)*"), api.ErrAnchor}, {neverEnd, api.ErrAnchor}, {repeat(0, 0, begin), api.ErrAnchor},
		{of("a"), api.OK}, {sized(api.MaxProg), api.OK},
	}
	for i, c := range errors {
		ok, why := deriv.Accepts(c.n, "")
		low, high, some, no := deriv.Lengths(c.n)
		first, not := deriv.First(c.n)
		if why != c.want || no != c.want || not != c.want {
			t.Errorf("%d: %d, %d, %d; not %d", i, why, no, not, c.want)
		}
		if c.want != api.OK && (ok || low != 0 || high != 0 || some || first != api.Set{}) {
			t.Errorf("%d: %v, %d, %d, %v, %v beside %d", i, ok, low, high, some, first, c.want)
		}
		if s, ok, why := deriv.Shortest(c.n); c.want != api.OK && (s != "" || ok || why != c.want) {
			t.Errorf("%d: Shortest = %q, %v, %d", i, s, ok, why)
		}
		for j, d := range errors {
			want := c.want
			if want == api.OK {
				want = d.want
			}
			if want != api.OK {
				equal, s, why := deriv.Equal(c.n, d.n)
				within, u, no := deriv.Within(c.n, d.n)
				v, common, not := deriv.Common(c.n, d.n)
				if why != want || no != want || not != want || equal || within || common || s+u+v != "" {
					t.Errorf("%d, %d: %v, %q, %d; %v, %q, %d; %q, %v, %d", i, j, equal, s, why, within, u, no, v, common, not)
				}
			}
		}
	}
}
