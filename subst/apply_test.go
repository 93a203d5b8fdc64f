package subst_test

import (
	"fmt"
	"math/rand"
	"runtime"
	"slices"
	"strings"
	"testing"

	"paddock/api"
	"paddock/subst"
	"paddock/twigs"
)

// 17.2, 17.3: the chapter's examples, and others by hand.
func TestApplyExamples(t *testing.T) {
	for _, x := range []struct {
		e, l, s string
		number  int
		flags   string
		want    string
	}{
		{"b*", "-", "abc", 0, "g", `"-a-c-" 3 [0 1 2 3]`},
		{"b*", "-", "abc", 2, "g", `"a-c-" 2 [0 1 2 3]`},
		{"b*", "-", "abc", 0, "", `"-abc" 1 [0]`},
		{"a", "[&]", "banana", 2, "", `"ban[a]na" 1 [0 2]`},
		{"x", "-", "abc", 0, "g", `"abc" 0 [0]`},
		{"a", "-", "a", 0, "g", `"-" 1 [0 1]`},
		{"b*", "-", "b", 0, "g", `"-" 1 [0 1]`},
		{"b*", "-", "bc", 0, "g", `"-c-" 2 [0 1 2]`},
		{"b*", "-", "abc", 3, "", `"abc-" 1 [0 1 2 3]`},
		{"b*", "-", "abc", 4, "", `"abc" 0 [0 1 2 3]`},
		{"b*", "-", "abc", 4, "g", `"abc" 0 [0 1 2 3]`},
		{"b*", "-", "abc", -1, "", `"-abc" 1 [0]`},
		{"b*", "-", "abb", 2, "", `"a-" 1 [0 1]`},
		{"", "-", "ab", 0, "g", `"-a-b-" 3 [0 1 2]`},
		{"", "-", "", 0, "g", `"-" 1 [0]`},
		{"a", "-", "", 0, "g", `"" 0 [0]`},
		{"^a", "", "aaa", 0, "g", `"aa" 1 [0 1]`},
		{"a$", "", "aaa", 0, "g", `"aa" 1 [0 3]`},
		{"^", "> ", "ab", 0, "g", `"> ab" 1 [0 1]`},
		{"$", ".", "ab", 0, "g", `"ab." 1 [0]`},
		{"a*$", "-", "baa", 0, "g", `"b-" 1 [0 3]`},
		{"(.)(.)", `\2\1`, "abcde", 0, "g", `"badce" 2 [0 2 4]`},
		{"(a|(b))*", `<\1|\2>`, "ba", 0, "", `"<a|>" 1 [0]`},
		{"(a)\\1", `\U&\E-\u\1`, "xaaaaa", 0, "g", `"xAA-AAA-Aa" 2 [0 3 5]`},
		{"[a-c]+", `<\l&>`, "xABCx", 0, "I", `"x<aBC>x" 1 [0]`},
		{"(A)\\1", "-", "aAaa", 0, "gI", `"--" 2 [0 2 4]`},
		{"(A)\\1", "-", "aAaa", 0, "g", `"aAaa" 0 [0]`},
		{"(B)", `\1\1`, "abAB", 0, "gI", `"abbABB" 2 [0 2 4]`},
		{"a+", `\u&\7`, "aa-a", 0, "g", `"Aa-A" 2 [0 2 4]`},
		{"a", `\U`, "aba", 0, "g", `"b" 2 [0 1 3]`},
		{"a", "b", "aaaaaa", 5, "", `"aaaaba" 1 [0 1 2 3 4]`},
		{"a", "b", "aaaaaa", 4, "", `"aaabaa" 1 [0 1 2 3]`},
		{"a", "b", "aaaaaa", 6, "", `"aaaaab" 1 [0 1 2 3 4 5]`},
		{"a", "b", "aaaaaa", 7, "", `"aaaaaa" 0 [0 1 2 3 4 5 6]`},
		{"x*", "-", "xaxaxax", 5, "", `"xaxaxax" 0 [0 1 2 3 4 5 6 7]`},
		{"x*", "-", "xaxaxax", 4, "", `"xaxaxa-" 1 [0 1 2 3 4 5 6]`},
	} {
		c := api.Subst{Pieces: pieces(x.l), Number: x.number, Global: strings.Contains(x.flags, "g")}
		n, fold := twigs.ERE(t, x.e), strings.Contains(x.flags, "I")
		s, count, why := subst.Apply(c, n, x.s, fold)
		l, no := subst.Tries(c, n, x.s, fold)
		if got := fmt.Sprintf("%q %d %v", s, count, l); why != api.OK || no != api.OK || got != x.want {
			t.Errorf("s/%s/%s/%s%d of %q: %s, errors %d, %d; not %s", x.e, x.l, x.flags, x.number, x.s, got, why, no, x.want)
		}
	}
}

// check holds Apply and Tries against the words.
func check(t *testing.T, c api.Subst, n api.Node, s string, fold bool) {
	t.Helper()
	want, count := applied(c, n, s, fold)
	got, k, why := subst.Apply(c, n, s, fold)
	if why != api.OK || got != want || k != count {
		t.Fatalf("Apply(%s, %d, %v; %s, %q, %v) = %q, %d, %d; not %q, %d", show(c.Pieces), c.Number, c.Global, twigs.Show(n), s, fold, got, k, why, want, count)
	}
	l, why := subst.Tries(c, n, s, fold)
	if tries := triesByWords(c, n, s, fold); why != api.OK || !slices.Equal(l, tries) {
		t.Fatalf("Tries(%d, %v; %s, %q, %v) = %v, %d; not %v", c.Number, c.Global, twigs.Show(n), s, fold, l, why, tries)
	}
}

// 17.2, 17.3: all small expressions over all short texts, by the words.
func TestApplySmall(t *testing.T) {
	leaves := []api.Node{twigs.Of("a"), twigs.Of("b"), twigs.Leaf(api.NodeEmpty), twigs.Leaf(api.NodeBegin), twigs.Leaf(api.NodeEnd), twigs.Back(1)}
	l := pieces(`<&|\1>`)
	for size := 1; size <= 4; size++ {
		t.Run("", func(t *testing.T) {
			t.Parallel()
			for i, n := range twigs.Trees(size, leaves, [][2]int{{0, -1}, {0, 1}, {2, 2}}) {
				for k, s := range twigs.Texts("ab", 4) {
					if size == 4 && (i+k)%5 != 0 {
						continue
					}
					check(t, api.Subst{Pieces: l, Global: true, Number: k % 3}, n, s, false)
					check(t, api.Subst{Pieces: l, Number: i % 4}, n, s, false)
				}
			}
		})
	}
}

// 17.2, 17.3: grown ones, with back-references and in both cases, by the words.
func TestApplyGrown(t *testing.T) {
	for part := range 8 {
		t.Run("", func(t *testing.T) {
			t.Parallel()
			chance := rand.New(rand.NewSource(int64(1720 + part))).Intn
			many := 0
			for i := range 5000 {
				n := twigs.Grow(chance, 1+i%12, i%3 == 0)
				s := twigs.Text(chance, "abAB"[:2+i%3], 12)
				c, fold := growSubst(chance), chance(2) == 0
				check(t, c, n, s, fold)
				if l := replaced(c, n, s, fold); len(l) > 4 {
					many++
				}
			}
			if many < 200 {
				t.Error("only a few have many matches:", many)
			}
		})
	}
}

// 17.2, 17.3: flags that are not of a text make no difference; texts that have more matches than any number that is told.
func TestApplyNumbers(t *testing.T) {
	for _, e := range []string{"a", "a*", "(a|b)", "ab?", "(a)(b*)", "b|$", "^a|b"} {
		n := twigs.ERE(t, e)
		s := strings.Repeat("aab", 9) + "a"
		for number := -2; number < 40; number++ {
			for _, global := range []bool{false, true} {
				check(t, api.Subst{Pieces: pieces(`<\1&\2>`), Number: number, Global: global, Print: true, Exec: true, File: "f"}, n, s, number%2 == 0)
			}
		}
	}
}

// 17.6, 17.7: s stays where nothing is replaced, and by &; what is not replaced stays.
func TestApplyFollows(t *testing.T) {
	chance := rand.New(rand.NewSource(176)).Intn
	nothing := 0
	for i := range 8000 {
		n := twigs.Grow(chance, 1+i%12, i%3 == 0)
		s := twigs.Text(chance, "abAB", 12)
		c, fold := growSubst(chance), i%2 == 0
		got, count, _ := subst.Apply(c, n, s, fold)
		if count == 0 {
			nothing++
			if got != s {
				t.Fatalf("17.6: nothing is replaced, but %q is %q", s, got)
			}
		}
		l := replaced(c, n, s, fold)
		at := 0
		for k, m := range append(l, []api.Span{{From: len(s), To: len(s)}}) {
			rest := s[at:m[0].From]
			if !strings.HasPrefix(got, rest) {
				t.Fatalf("17.7: %q of %s in %q: %q does not begin with %q", show(c.Pieces), twigs.Show(n), s, got, rest)
			}
			got, at = got[len(rest):], m[0].To
			if k < len(l) {
				got = strings.TrimPrefix(got, said(c.Pieces, s, m))
			}
		}
		if got != "" {
			t.Fatalf("17.7: %q is too much", got)
		}
		c.Pieces = []api.Piece{group(0)}
		if same, k, why := subst.Apply(c, n, s, fold); why != api.OK || same != s || k != count {
			t.Fatalf("17.6: %q is %q by &, %d, not %d", s, same, k, count)
		}
	}
	if nothing < 500 {
		t.Error("nothing is replaced only a few times:", nothing)
	}
}

// 17.2, 17.3: an expression's error, and nothing beside it; also where the text would be too long.
func TestApplyWrong(t *testing.T) {
	long := api.Subst{Pieces: slices.Repeat([]api.Piece{text(strings.Repeat("a", 1<<20))}, 1<<10+1), Global: true}
	many := twigs.Cat(slices.Repeat([]api.Node{twigs.Of("a")}, api.MaxNodes)...)
	groups := twigs.Nest(api.MaxGroups+1, twigs.Of("a"), twigs.Group)
	for _, x := range []struct {
		n   api.Node
		why api.Errno
	}{{api.Node{}, api.ErrNode}, {twigs.Back(1), api.ErrNode}, {twigs.Cat(twigs.Of("a")), api.ErrNode}, {twigs.Repeat(2, 1, twigs.Of("a")), api.ErrNode}, {twigs.Repeat(0, api.MaxRepeat+1, twigs.Of("a")), api.ErrNode}, {twigs.Leaf(200), api.ErrNode}, {groups, api.ErrNode}, {many, api.ErrMany}} {
		for _, c := range []api.Subst{{}, {Global: true, Number: 3}, long} {
			for _, s := range []string{"", "aaa"} {
				if got, count, why := subst.Apply(c, x.n, s, s == ""); why != x.why || got != "" || count != 0 {
					t.Errorf("Apply: %d bytes, %d, error %d, not %d", len(got), count, why, x.why)
				}
				if l, why := subst.Tries(c, x.n, s, s == ""); why != x.why || l != nil {
					t.Errorf("Tries: %v, error %d, not %d", l, why, x.why)
				}
			}
		}
	}
	full := twigs.Nest(api.MaxGroups, twigs.Of("a"), twigs.Group)
	for _, c := range []api.Subst{{Pieces: []api.Piece{group(99), group(100), group(1)}}, {Pieces: []api.Piece{group(99), group(1)}, Global: true}} {
		if got, count, why := subst.Apply(c, full, "ab", false); why != api.OK || count != 1 || got != "aab" {
			t.Error("the greatest group:", got, count, why)
		}
	}
}

// 17.2: just so many bytes, and one more, in one match and in many.
func TestApplyLimit(t *testing.T) {
	defer runtime.GC()
	n := twigs.ERE(t, "a|(c)")
	block := text(strings.Repeat("x", api.MaxMemory>>10))
	many := api.Subst{Pieces: []api.Piece{block}, Global: true}
	one := api.Subst{Pieces: slices.Repeat([]api.Piece{block}, 1<<10), Number: 2}
	less := strings.Repeat("a", 1<<10-1)
	for _, x := range []struct {
		c     api.Subst
		s     string
		count int
		why   api.Errno
	}{
		{many, less + "a", 1 << 10, api.OK},
		{many, less + "ab", 0, api.ErrLong},
		{many, "b" + less + "a", 0, api.ErrLong},
		{many, less + strings.Repeat("b", len(block.Text)), 1<<10 - 1, api.OK},
		{many, less + strings.Repeat("b", len(block.Text)+1), 0, api.ErrLong},
		{many, less + less + less, 0, api.ErrLong},
		{api.Subst{Pieces: []api.Piece{block, group(1)}, Global: true}, less + "c", 0, api.ErrLong},
		{one, "ba", 0, api.OK},
		{one, "aa", 0, api.ErrLong},
		{one, "bab", 0, api.OK},
	} {
		got, count, why := subst.Apply(x.c, n, x.s, false)
		size := 0
		if x.why == api.OK {
			size = len(x.s) + x.count*(len(block.Text)-1)
		}
		if why != x.why || count != x.count || len(got) != size {
			t.Errorf("%d bytes, %d, error %d; not %d, %d, %d", len(got), count, why, size, x.count, x.why)
		}
		runtime.GC() // what was so long is given back ahead of the next one
	}
	one.Number = 0
	begin := twigs.ERE(t, "^a")
	if got, count, why := subst.Apply(one, begin, "a", false); why != api.OK || count != 1 || len(got) != api.MaxMemory {
		t.Error("one match at the limit:", len(got), count, why)
	}
	if got, count, why := subst.Apply(one, begin, "ab", false); why != api.ErrLong || count != 0 || got != "" {
		t.Error("one match past the limit:", len(got), count, why)
	}
	runtime.GC()
	over := "a" + strings.Repeat("b", api.MaxMemory)
	if got, count, why := subst.Apply(api.Subst{}, begin, over, false); why != api.OK || count != 1 || len(got) != api.MaxMemory {
		t.Error("a text that comes down to the limit:", len(got), count, why)
	}
	if got, count, why := subst.Apply(api.Subst{Pieces: []api.Piece{group(0)}}, begin, over, false); why != api.ErrLong || count != 0 || got != "" {
		t.Error("a text that stays past the limit:", len(got), count, why)
	}
}

// 17.2, 17.3: long texts with many matches; what comes behind the last match that is asked for costs nothing.
func TestApplyLong(t *testing.T) {
	const times = 1 << 16
	s := strings.Repeat("xA", times)
	c := api.Subst{Pieces: pieces(`<\1>`), Global: true}
	n := twigs.ERE(t, "(a)b*")
	got, count, why := subst.Apply(c, n, s, true)
	if why != api.OK || count != times || got != strings.Repeat("x<A>", times) {
		t.Error("long:", len(got), count, why)
	}
	l, why := subst.Tries(c, n, s, true)
	if why != api.OK || len(l) != times+1 || l[1] != 2 || l[times] != 2*times {
		t.Error("long:", len(l), why)
	}
	hard := twigs.ERE(t, `b|(a*)(a*)(a*)(a*)(a*)(a*)\1\2\3\4\5\6c`)
	c.Global = false
	for c.Number = range 4 {
		s := "bbb" + strings.Repeat("a", 300) + "c"
		if _, count, why := subst.Apply(c, hard, s, false); why != api.OK || count != 1 {
			t.Error("hard behind:", count, why)
		}
		if l, why := subst.Tries(c, hard, s, false); why != api.OK || len(l) != max(c.Number, 1) {
			t.Error("hard behind:", l, why)
		}
	}
}

// 17.5: what is handed in stays as it is, its spare room too; an answer shares no memory with it or with another one.
func TestApplyMemory(t *testing.T) {
	chance := rand.New(rand.NewSource(1750)).Intn
	for i := range 3000 {
		n := twigs.Grow(chance, 1+i%12, i%3 == 0)
		s := twigs.Text(chance, "abAB", 12)
		c, fold := growSubst(chance), i%2 == 0
		want, count := applied(c, n, s, fold)
		tries := triesByWords(c, n, s, fold)
		given, pieces := twigs.Roomy(n), append(c.Pieces, text("room"))
		c.Pieces = pieces[:len(pieces)-1]
		was := show(pieces)
		got, _, _ := subst.Apply(c, given, s, fold)
		first, _ := subst.Tries(c, given, s, fold)
		if show(pieces) != was || !twigs.Same(given, n) || !twigs.Untouched(given) {
			t.Fatalf("%s or %s was changed", was, twigs.Show(n))
		}
		second, _ := subst.Tries(c, given, s, fold)
		for i := range first[:cap(first)] {
			first[:cap(first)][i] = 77
		}
		again, k, _ := subst.Apply(c, given, s, fold)
		twigs.Blot(given)
		clear(pieces)
		if got != want || again != want || k != count || !slices.Equal(second, tries) {
			t.Fatalf("%q, %q, %v; not %q, %v", got, again, second, want, tries)
		}
	}
}
