package match_test

import (
	"math/rand"
	"slices"
	"strings"
	"testing"

	"paddock/api"
	"paddock/match"
	"paddock/posix"
	"paddock/twigs"
)

const maxInt = 1<<63 - 1

// 11.1, 11.2: errors, which one comes first, and the limits, at them and one past them; what stands beside them.
func TestErrors(t *testing.T) {
	wrong, tooMany, great := back(1), twigs.Cat(slices.Repeat([]api.Node{of("a")}, api.MaxNodes)...), sized(api.MaxProg+1)
	a, twice := of("a"), cat(group(1, of("a")), back(1))
	for i, c := range []struct {
		n          api.Node
		from, most int
		want       api.Errno
	}{
		{wrong, 0, 9, api.ErrNode}, {wrong, -1, -1, api.ErrNode}, {tooMany, 0, 9, api.ErrMany}, {tooMany, 9, -1, api.ErrMany}, {great, 0, 0, api.ErrMany}, {great, -1, -1, api.ErrMany}, {cat(great, api.Node{}), 0, 9, api.ErrNode}, {api.Node{}, 0, 9, api.ErrNode},
		{a, -1, 9, api.ErrRange}, {a, 3, 9, api.ErrRange}, {a, -1 << 63, 9, api.ErrRange}, {a, maxInt, 9, api.ErrRange}, {a, 0, -1, api.ErrRange}, {a, 0, api.MaxQuota + 1, api.ErrRange}, {a, 0, maxInt, api.ErrRange}, {a, 0, -1 << 63, api.ErrRange}, {a, -1, 0, api.ErrRange}, {a, 3, 0, api.ErrRange}, {twice, 3, 0, api.ErrRange}, {twice, 0, api.MaxQuota + 1, api.ErrRange},
		{a, 0, 0, api.ErrFuel}, {a, 2, 0, api.ErrFuel}, {a, 0, 1, api.ErrFuel}, {twice, 0, 4, api.ErrFuel}, {twice, 0, 0, api.ErrFuel},
		{a, 0, 2, api.OK}, {a, 2, 1, api.OK}, {a, 0, api.MaxQuota, api.OK}, {twice, 0, 5, api.OK}, {twice, 0, api.MaxQuota, api.OK}, {sized(api.MaxProg), 0, api.MaxQuota, api.OK},
	} {
		k, why := match.Steps(c.n, "aa", c.from, false, c.most)
		l, ok, steps, no := match.Match(c.n, "aa", c.from, false, c.most)
		if why != c.want || no != c.want {
			t.Errorf("%d: %d, %d; not %d", i, why, no, c.want)
		}
		beside := 0
		if c.want == api.ErrFuel {
			beside = c.most
		}
		if c.want != api.OK && (k != 0 || l != nil || ok || steps != beside) {
			t.Errorf("%d: %d; %v, %v, %d beside %d", i, k, l, ok, steps, c.want)
		}
		if c.want == api.OK && (k == 0 || k != steps) {
			t.Errorf("%d: %d steps, and %d", i, k, steps)
		}
	}
}

// 11.3: errors, which one comes first, the limits of a length; and the number itself.
func TestBound(t *testing.T) {
	wrong, great := back(1), sized(api.MaxProg+1)
	twice, never := ere(t, "(a)\\1"), cat(group(1, empty), repeat(0, 0, back(1)))
	for i, c := range []struct {
		n            api.Node
		length, want int
		why          api.Errno
	}{
		{wrong, 1, 0, api.ErrNode}, {wrong, -1, 0, api.ErrNode}, {great, 1, 0, api.ErrMany}, {great, -1, 0, api.ErrMany}, {cat(group(1, empty), great, back(1)), 0, 0, api.ErrMany}, {twice, 0, 0, api.ErrBacks}, {twice, -1, 0, api.ErrBacks}, {twice, api.MaxScript + 1, 0, api.ErrBacks}, {never, 0, 0, api.ErrBacks}, {of("a"), -1, 0, api.ErrRange}, {of("a"), api.MaxScript + 1, 0, api.ErrRange}, {of("a"), maxInt, 0, api.ErrRange}, {of("a"), -1 << 63, 0, api.ErrRange},
		{of("a"), 0, 2, api.OK}, {empty, 0, 1, api.OK}, {of("a"), 3, 32, api.OK}, {ere(t, "(a)*"), 1, 36, api.OK}, {of("a"), api.MaxScript, 2 * 65537 * 65537, api.OK}, {sized(api.MaxProg), api.MaxScript, 16384 * 65537 * 65537, api.OK}, {begin, 9, 200, api.OK},
	} {
		if b, why := match.Bound(c.n, c.length); b != c.want || why != c.why {
			t.Errorf("%d: %d, %d; not %d, %d", i, b, why, c.want, c.why)
		}
	}
}

// 11.4: answers are new memory, and what is handed in stays as it is.
func TestNewMemory(t *testing.T) {
	chance := rand.New(rand.NewSource(114))
	for i := range 1500 {
		n := grow(chance.Intn, 2+i%14, i%2 == 0)
		s := text(chance.Intn, "aAb", 6)
		given := roomy(n)
		l, ok, steps, why := match.Match(given, s, 0, i%3 == 0, 5000)
		match.Steps(given, s, 0, i%3 == 0, 5000)
		match.Bound(given, 5)
		if !twigs.Same(given, n) || !intact(given) {
			t.Fatalf("%s was changed", show(n))
		}
		kept := slices.Clone(l)
		twigs.Blot(given)
		if !slices.Equal(l, kept) {
			t.Fatalf("the match of %s shares memory with it", show(n))
		}
		for i := range l[:cap(l)] {
			l[:cap(l)][i] = api.Span{From: 77, To: 77}
		}
		again, is, k, no := match.Match(n, s, 0, i%3 == 0, 5000)
		if !slices.Equal(again, kept) || is != ok || k != steps || no != why {
			t.Fatalf("the match of %s shares memory with an earlier one", show(n))
		}
	}
}

// 11.5, 11.6, 11.7: what follows, of grown expressions.
func TestFollows(t *testing.T) {
	chance := rand.New(rand.NewSource(117))
	const most = 20000
	for i := range 6000 {
		n := grow(chance.Intn, 2+i%22, i%3 == 0)
		s := text(chance.Intn, "abB", 12)
		fold := i%5 == 0
		steps, begins := make([]int, len(s)+1), make([]int, len(s)+1)
		for from := range steps {
			l, ok, k, why := match.Match(n, s, from, fold, most)
			if k > most {
				t.Fatalf("11.6: %s in %q from %d: %d steps of %d", show(n), s, from, k, most)
			}
			want, meant, _ := posix.Match(n, s, from, fold)
			if why == api.OK && (ok != meant || !slices.Equal(l, want)) {
				t.Fatalf("11.5: %s in %q from %d: %v, meant is %v", show(n), s, from, l, want)
			}
			if steps[from], begins[from] = k, len(s)+1; ok {
				begins[from] = l[0].From
			}
			if b, no := match.Bound(n, len(s)); no == api.OK && why == api.OK && k > b {
				t.Fatalf("11.6: %s in %q from %d: %d steps, bound is %d", show(n), s, from, k, b)
			}
			if from > 0 && why == api.OK && begins[from] == begins[from-1] && k > steps[from-1] {
				t.Fatalf("11.7: %s in %q from %d: %d steps, %d from the place ahead", show(n), s, from, k, steps[from-1])
			}
		}
	}
}

// 11.7: the steps of a match are those up to its beginning: what lies behind makes no difference to how many beginnings are tried.
func TestEndsThere(t *testing.T) {
	n := ere(t, "a|(b)")
	first, _ := match.Steps(n, "xxxb", 3, false, 99)
	none, _ := match.Steps(n, "xxx", 0, false, 99)
	end, _ := match.Steps(n, "", 0, false, 99)
	for _, tail := range []string{"", "b", "aaaa", strings.Repeat("xb", 999)} {
		if k, why := match.Steps(n, "xxxb"+tail, 0, false, 99); why != api.OK || k != none-end+first {
			t.Errorf("%q: %d steps, error %d", tail, k, why)
		}
	}
}

// P1, 11.1: long texts. What an expression without back-references comes to again from the next place is known from the one ahead.
func TestLong(t *testing.T) {
	as := func(n int) string { return strings.Repeat("a", n) }
	rounds := cat(repeat(3, 3, repeat(200, 200, of("a"))), of("b")) // from each place a step more than there are a, up to 600
	stepsOfRounds := 601 * (60000 - 600)
	for i := range 601 {
		stepsOfRounds += i + 1
	}
	for i, c := range []struct {
		n    api.Node
		s    string
		want int
	}{
		// from each place four steps, and six at each one further on
		{ere(t, "a*b"), as(37000), 37001 * (4 + 3*37000)}, {ere(t, "a*b"), as(1000), 1001 * (4 + 3*1000)},
		{rounds, as(60000), stepsOfRounds}, {of("b"), as(1 << 20), 1<<20 + 1}, {ere(t, "a*"), as(1 << 20), 4 + 6<<20}, {ere(t, "^b"), as(1 << 20), 1<<20 + 2}, {ere(t, "^a*b"), as(5 << 20), 5 + 7*(5<<20)},
		{ere(t, "(.)\\1"), strings.Repeat("ab", 1<<15), (1<<16-1)*4 + 4 + 2},
		// from each place seven steps there and at each one further on; and at each second one that of b behind what stands twice
		{ere(t, "(a*)\\1b"), as(300), 7*301*(1+150) + 150*150},
	} {
		if k, why := match.Steps(c.n, c.s, 0, false, api.MaxQuota); why != api.OK || k != c.want {
			t.Errorf("%d: over %d bytes: %d steps, error %d; not %d", i, len(c.s), k, why, c.want)
		}
	}
	for _, c := range []struct{ e, s string }{{"a*b", as(38000)}, {"(a|aa)*b", as(1 << 19)}, {"(a*)*(a*)*(a*)*b", as(1 << 16)}} {
		if l, ok, k, why := match.Match(ere(t, c.e), c.s, 0, false, api.MaxQuota); why != api.ErrFuel || k != api.MaxQuota || ok || l != nil {
			t.Errorf("%s over %d bytes: %v, %v, %d, %d", c.e, len(c.s), l, ok, k, why)
		}
	}
}

// 11.6: whatever the expression, no more is gone through than there is fuel for.
func TestStops(t *testing.T) {
	star := func(_ int, n api.Node) api.Node { return repeat(0, -1, n) }
	deep := nest(3000, of("a"), star)
	nine := strings.Repeat("(.*)", 9) + "\\1\\2\\3\\4\\5\\6\\7\\8\\9x"
	for i, n := range []api.Node{
		ere(t, nine), ere(t, "((((a*)*)*)*)*\\1x"), cat(group(1, empty), deep, back(1), of("x")), cat(deep, of("x")), sized(api.MaxProg),
	} {
		s := strings.Repeat("a", 1<<17)
		for _, fuel := range []int{0, 1, 1000, 200000} {
			if l, ok, k, why := match.Match(n, s, 0, false, fuel); why != api.ErrFuel && i != 4 || k > fuel || ok || l != nil {
				t.Errorf("%d: %v, %v, %d, %d", i, l, ok, k, why)
			}
		}
	}
	for s, want := range map[string]int{"": 12000, "a": 12000 + 12002} { // all but the innermost moved and jump; then all
		if k, why := match.Steps(deep, s, 0, false, api.MaxQuota); why != api.OK || k != want {
			t.Errorf("a deep one in %q: %d, %d", s, k, why)
		}
	}
}
