package nfa_test

import (
	"math/rand"
	"slices"
	"strings"
	"testing"

	"paddock/api"
	"paddock/nfa"
	"paddock/posix"
)

// program is that of an extended expression.
func program(t *testing.T, s string) api.Prog {
	t.Helper()
	p, why := nfa.Compile(ere(t, s))
	if why != api.OK {
		t.Fatalf("%q: error %d", s, why)
	}
	return p
}

// P10.3: the chapter's examples.
func TestRuns(t *testing.T) {
	for _, c := range []struct {
		e, s string
		from int
		want []int
	}{
		{"a*", "aab", 0, []int{0, 1, 2}}, {"a*", "b", 0, []int{0}}, {"a", "b", 0, nil}, {"a|ab", "ab", 0, []int{1, 2}}, {"^", "a", 1, nil}, {"$", "a", 1, []int{1}}, {"$", "a", 0, nil}, {"a$|^", "a", 0, []int{0, 1}}, {"(a*)*", "aa", 1, []int{1, 2}}, {"", "", 0, []int{0}}, {"(a{2}){1,}", "aaaaa", 0, []int{2, 4}},
	} {
		if l, why := nfa.Ends(program(t, c.e), c.s, c.from); why != api.OK || !slices.Equal(l, c.want) {
			t.Errorf("Ends(%s, %q, %d) = %v, %d", c.e, c.s, c.from, l, why)
		}
	}
	for _, c := range []struct {
		e, s string
		want api.Span
		ok   bool
	}{
		{"a+", "baa", api.Span{From: 1, To: 3}, true}, {"a$", "ab", api.Span{}, false}, {"a*", "baa", api.Span{}, true}, {"ab|b", "ab", api.Span{From: 0, To: 2}, true}, {"b|abc", "abd", api.Span{From: 1, To: 2}, true}, {"abcd|bc|c", "xabc", api.Span{From: 2, To: 4}, true}, {"a.*c|b", "abab", api.Span{From: 1, To: 2}, true}, {"a.*c|bab?", "ababc", api.Span{From: 0, To: 5}, true}, {"x*$", "axx", api.Span{From: 1, To: 3}, true},
	} {
		if m, ok, why := nfa.Match(program(t, c.e), c.s, 0); why != api.OK || ok != c.ok || m != c.want {
			t.Errorf("Match(%s, %q) = %v, %v, %d", c.e, c.s, m, ok, why)
		}
	}
	if ok, why := nfa.Whole(program(t, "a|ab"), "ab", api.Span{From: 0, To: 2}); !ok || why != api.OK {
		t.Error("Whole:", ok, why)
	}
}

// checkRuns holds Ends, Whole and Match of a program against the words, from each place.
func checkRuns(t *testing.T, p api.Prog, s string) {
	t.Helper()
	for from := range len(s) + 1 {
		want := endsOf(p, s, from)
		if l, why := nfa.Ends(p, s, from); why != api.OK || !slices.Equal(l, want) {
			t.Fatalf("Ends(%v, %q, %d) = %v, %d; not %v", p, s, from, l, why, want)
		}
		for to := from; to <= len(s); to++ {
			if ok, why := nfa.Whole(p, s, api.Span{From: from, To: to}); why != api.OK || ok != slices.Contains(want, to) {
				t.Fatalf("Whole(%v, %q, %d %d) = %v, %d", p, s, from, to, ok, why)
			}
		}
		m, ok, why := nfa.Match(p, s, from)
		if span, is := matchOf(p, s, from); why != api.OK || ok != is || m != span {
			t.Fatalf("Match(%v, %q, %d) = %v, %v, %d; not %v, %v", p, s, from, m, ok, why, span, is)
		}
	}
}

// P10.3, P10.7: programs of expressions, and such as no expression has.
func TestByWords(t *testing.T) {
	chance := rand.New(rand.NewSource(103))
	for i := range 6000 {
		checkRuns(t, programOf(grow(chance.Intn, 2+i%16, false)), text(chance.Intn, "ab", 8))
		checkRuns(t, anyProgram(chance, i%15), text(chance.Intn, "ab", 8))
	}
}

// P10.5: the same spans as the plain meaning.
func TestAsMeant(t *testing.T) {
	chance := rand.New(rand.NewSource(105))
	found := 0
	for i := range 8000 {
		n := grow(chance.Intn, 2+i%20, false)
		p, why := nfa.Compile(n)
		if why != api.OK {
			t.Fatal(show(n), why)
		}
		s := text(chance.Intn, "abx", 14)
		for from := range len(s) + 1 {
			l, want, _ := posix.Match(n, s, from, false)
			m, ok, why := nfa.Match(p, s, from)
			if why != api.OK || ok != want || ok && m != l[0] {
				t.Fatalf("%s in %q from %d: %v, %v; meant is %v", show(n), s, from, m, ok, l)
			}
			if ok {
				found++
			}
			to := from + chance.Intn(len(s)-from+1)
			is, _ := posix.Whole(n, s, api.Span{From: from, To: to}, false)
			if ok, _ := nfa.Whole(p, s, api.Span{From: from, To: to}); ok != is {
				t.Fatalf("%s in %q from %d to %d: %v", show(n), s, from, to, ok)
			}
		}
	}
	if found < 10000 {
		t.Error("only a few:", found)
	}
}

// P10.8: a NodeCat and a NodeAlt by their kids.
func TestParts(t *testing.T) {
	chance := rand.New(rand.NewSource(108))
	for i := range 4000 {
		a, _ := numbered(grow(chance.Intn, 1+i%10, false))
		b, _ := numbered(grow(chance.Intn, 1+i%7, false))
		row, _ := numbered(cat(a, b))
		either, _ := numbered(alt(a, b))
		s := text(chance.Intn, "ab", 10)
		from := chance.Intn(len(s) + 1)
		first, second := endsFrom(t, a, s, from), endsFrom(t, b, s, from)
		var behind []int
		for _, m := range first {
			behind = append(behind, endsFrom(t, b, s, m)...)
		}
		if got := endsFrom(t, row, s, from); !slices.Equal(got, sorted(behind)) {
			t.Fatalf("P10.8: %s in %q from %d: %v, not %v", show(row), s, from, got, behind)
		}
		if got := endsFrom(t, either, s, from); !slices.Equal(got, sorted(append(first, second...))) {
			t.Fatalf("P10.8: %s in %q from %d: %v, not %v or %v", show(either), s, from, got, first, second)
		}
	}
}

func endsFrom(t *testing.T, n api.Node, s string, from int) []int {
	p, why := nfa.Compile(n)
	l, no := nfa.Ends(p, s, from)
	if why != api.OK || no != api.OK {
		t.Fatal(show(n), why, no)
	}
	return l
}

func sorted(l []int) []int {
	slices.Sort(l)
	return slices.Compact(l)
}

// P10.2, P10.3: errors, and which one comes first; nothing stands beside them.
func TestErrors(t *testing.T) {
	wrong := api.Prog{Code: []api.Inst{{Kind: api.InstSet}}}
	wrongBack := api.Prog{Code: []api.Inst{{Kind: api.InstBack, Group: 1}, {Kind: api.InstMatch}}}
	backs := program(t, "(a)\\1")
	a := program(t, "a*")
	for i, c := range []struct {
		p    api.Prog
		at   api.Span
		want api.Errno
	}{
		{api.Prog{}, api.Span{}, api.ErrProg}, {wrong, api.Span{}, api.ErrProg}, {wrong, api.Span{From: -1, To: -1}, api.ErrProg}, {wrongBack, api.Span{}, api.ErrProg}, {backs, api.Span{}, api.ErrBacks}, {backs, api.Span{From: 9, To: 9}, api.ErrBacks}, {a, api.Span{From: -1, To: 0}, api.ErrRange}, {a, api.Span{From: 3, To: 3}, api.ErrRange}, {a, api.Span{From: -1 << 63, To: 1<<63 - 1}, api.ErrRange}, {a, api.Span{From: 1<<63 - 1, To: 1<<63 - 1}, api.ErrRange}, {a, api.Span{From: 2, To: 2}, api.OK}, {a, api.Span{From: 0, To: 2}, api.OK},
	} {
		l, why := nfa.Ends(c.p, "aa", c.at.From)
		ok, no := nfa.Whole(c.p, "aa", c.at)
		m, found, not := nfa.Match(c.p, "aa", c.at.From)
		if why != c.want || no != c.want || not != c.want {
			t.Errorf("%d: %d, %d, %d; not %d", i, why, no, not, c.want)
		}
		if none := l == nil && !ok && m == (api.Span{}) && !found; none == (c.want == api.OK) {
			t.Errorf("%d: %v, %v, %v, %v beside %d", i, l, ok, m, found, c.want)
		}
	}
	for _, at := range []api.Span{{From: 1, To: 0}, {From: 0, To: 3}, {From: 0, To: -1}, {From: 2, To: 3}, {From: 0, To: 1<<63 - 1}} {
		if ok, why := nfa.Whole(a, "aa", at); ok || why != api.ErrRange {
			t.Error("Whole", at, ok, why)
		}
	}
}

// P10.3: one look at each byte, whatever the expression and the text.
func TestLong(t *testing.T) {
	as := strings.Repeat("a", 1<<18)
	for _, c := range []struct {
		e, s string
		want api.Span
		ok   bool
	}{
		{"(a*)*b", as, api.Span{}, false}, {"(a|aa)*b", as, api.Span{}, false}, {"((a+)+)+$", as, api.Span{From: 0, To: len(as)}, true}, {"(.*)*(.*)*(.*)*x", as, api.Span{}, false}, {"b", as + "b", api.Span{From: len(as), To: len(as) + 1}, true}, {".*", as, api.Span{From: 0, To: len(as)}, true}, {"a{255}b", as, api.Span{}, false}, {"b|a.*b", as, api.Span{}, false},
	} {
		if m, ok, why := nfa.Match(program(t, c.e), c.s, 0); why != api.OK || ok != c.ok || m != c.want {
			t.Errorf("%s over %d bytes: %v, %v, %d", c.e, len(c.s), m, ok, why)
		}
	}
	if l, why := nfa.Ends(program(t, "(a*)*"), as, 0); why != api.OK || len(l) != len(as)+1 {
		t.Error("Ends:", len(l), why)
	}
	great, why := nfa.Compile(sized(api.MaxProg))
	if _, ok, no := nfa.Match(great, as, 0); why != api.OK || no != api.OK || ok {
		t.Error("a great program:", ok, why, no)
	}
	star := func(_ int, n api.Node) api.Node { return repeat(0, -1, n) }
	deep, why := nfa.Compile(nest(3000, of("a"), star))
	if m, ok, no := nfa.Match(deep, as[:200], 0); why != api.OK || no != api.OK || !ok || m.To != 200 {
		t.Error("a deep one:", m, ok, why, no)
	}
}

// P1: programs that go round for ever.
func TestLoops(t *testing.T) {
	match := api.Inst{Kind: api.InstMatch}
	for i, code := range [][]api.Inst{
		{{Kind: api.InstJump}, match}, {{Kind: api.InstSplit}, match}, {{Kind: api.InstJump, To: 1}, {Kind: api.InstJump}, match}, {{Kind: api.InstSplit, To: 2}, {Kind: api.InstJump}, {Kind: api.InstSplit}, match},
	} {
		p := api.Prog{Code: code}
		checkRuns(t, p, "ab")
		if !nfa.Right(p) {
			t.Error(i)
		}
	}
}
