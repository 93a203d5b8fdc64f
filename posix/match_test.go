package posix_test

import (
	"fmt"
	"math/rand"
	"slices"
	"testing"

	"paddock/api"
	"paddock/posix"
	"paddock/twigs"
)

// The chapter's examples, and others by hand.
func TestExamples(t *testing.T) {
	for _, x := range []struct {
		e, s string
		from int
		fold bool
		want string
	}{
		{"(a|ab)(c|bcd)(d*)", "abcd", 0, false, "[{0 4} {0 2} {2 3} {3 4}] true"}, {"a*", "baa", 0, false, "[{0 0}] true"}, {"a+", "baa", 0, false, "[{1 3}] true"}, {"a", "b", 0, false, "[] false"},
		{"(a*)*", "b", 0, false, "[{0 0} {-1 -1}] true"}, {"(a*)+", "b", 0, false, "[{0 0} {0 0}] true"}, {"(a|(b))*", "ba", 0, false, "[{0 2} {1 2} {-1 -1}] true"},
		{"(a*)\\1", "aaa", 0, false, "[{0 2} {0 1}] true"}, {"(a*)\\1", "aAa", 0, true, "[{0 2} {0 1}] true"}, {"(a*)\\1", "aAa", 0, false, "[{0 0} {0 0}] true"}, {"(a|b)\\1", "abb", 0, false, "[{1 3} {1 2}] true"},
		{"^a", "aa", 1, false, "[] false"}, {"^a", "aa", 0, false, "[{0 1}] true"}, {"a$", "aa", 0, false, "[{1 2}] true"}, {"(|a)+", "aa", 0, false, "[{0 2} {1 2}] true"}, {"$", "ab", 0, false, "[{2 2}] true"}, {"^$", "", 0, false, "[{0 0}] true"}, {"^", "ab", 1, false, "[] false"},
		{"(a|ab)(bc|c)?", "abc", 0, false, "[{0 3} {0 2} {2 3}] true"}, {"(a*)(ab)*(b*)", "abb", 0, false, "[{0 3} {0 1} {-1 -1} {1 3}] true"}, {"(a|b|ab)*", "ab", 0, false, "[{0 2} {0 2}] true"}, {"(ab|a)(bcd|c)?(d*)", "abcd", 0, false, "[{0 4} {0 2} {2 3} {3 4}] true"}, {"((a)|b)*", "ab", 0, false, "[{0 2} {1 2} {-1 -1}] true"}, {"(a{2}){2}", "aaaaa", 0, false, "[{0 4} {2 4}] true"}, {"(a{0,2}){3}", "aaa", 0, false, "[{0 3} {3 3}] true"}, {"(a|){3}", "a", 0, false, "[{0 1} {1 1}] true"}, {"(a?){0,3}", "", 0, false, "[{0 0} {-1 -1}] true"}, {"(()|a)*", "aa", 0, false, "[{0 2} {1 2} {-1 -1}] true"}, {"(a)|b", "b", 0, false, "[{0 1} {-1 -1}] true"}, {"(a){0}b", "ab", 0, false, "[{1 2} {-1 -1}] true"},
		{"((a)|b)*\\2", "aba", 0, false, "[] false"}, {"((a)|b)*\\2", "abaa", 0, false, "[{0 4} {2 3} {2 3}] true"}, {"(a)*\\1", "aaa", 0, false, "[{0 3} {1 2}] true"}, {"(a)*\\1", "b", 0, false, "[] false"}, {"(a*)(b\\1)*", "aabaaba", 0, false, "[{0 5} {0 2} {2 5}] true"}, {"(.*)x\\1", "abxab", 0, false, "[{0 5} {0 2}] true"}, {"()\\1", "a", 1, false, "[{1 1} {1 1}] true"}, {"(a|b)*\\1", "abb", 0, false, "[{0 3} {1 2}] true"},
		{"()()()()()()()((a)|b)*\\9", "aba", 0, false, "[] false"}, {"()()()()()()()()(a)\\9", "aa", 0, false, "[{0 2} {0 0} {0 0} {0 0} {0 0} {0 0} {0 0} {0 0} {0 0} {0 1}] true"}, {"(a)()()()()()()()()(\\1(b))*", "aabab", 0, false, "[{0 5} {0 1} {1 1} {1 1} {1 1} {1 1} {1 1} {1 1} {1 1} {1 1} {3 5} {4 5}] true"},
		{"[a-c]+", "xABCx", 0, true, "[{1 4}] true"}, {"[^a]", "Aab", 0, true, "[{0 1}] true"}, {"(é)\\1", "éé", 0, true, "[{0 4} {0 2}] true"}, {"a@", "A`", 0, true, "[] false"}, {"\\[", "{", 0, true, "[] false"}, {"(\\[)\\1", "[{", 0, true, "[] false"},
	} {
		l, ok, why := posix.Match(ere(t, x.e), x.s, x.from, x.fold)
		if got := fmt.Sprint(l, ok); why != api.OK || got != x.want {
			t.Errorf("%s in %q: %s, error %d; not %s", x.e, x.s, got, why, x.want)
		}
	}
	for _, x := range [][3]string{{"x*", "abc", "[{0 0} {1 1} {2 2} {3 3}]"}, {"b*", "abc", "[{0 0} {1 2} {3 3}]"}, {"a", "aba", "[{0 1} {2 3}]"}, {"^a", "aaa", "[{0 1}]"}, {"a$|b", "ba", "[{0 1} {1 2}]"}, {"", "", "[{0 0}]"}, {"a", "", "[]"}, {"a*", "aab", "[{0 2} {3 3}]"}, {"a*$", "baa", "[{1 3}]"}, {"(a)\\1", "aaaaa", "[{0 2} {2 4}]"}, {"a|$", "a", "[{0 1}]"}} {
		if l, why := posix.All(ere(t, x[0]), x[1], false); why != api.OK || fmt.Sprint(l) != x[2] {
			t.Error("All", x, l, why)
		}
	}
}

// checkByWords holds Match and Whole against the words, from each place; false: it could not be told.
func checkByWords(t *testing.T, n api.Node, s string, fold bool) bool {
	t.Helper()
	for from := range len(s) + 1 {
		want, ok := meant(n, s, from, fold)
		ends, all := meantEnds(n, s, from, fold)
		if !ok || !all {
			return false
		}
		got, found, why := posix.Match(n, s, from, fold)
		if why != api.OK || found != (want != nil) || !slices.Equal(got, want) {
			t.Fatalf("Match(%s, %q, %d, %v) = %v, %v, %d; not %v", show(n), s, from, fold, got, found, why, want)
		}
		for to := from; to <= len(s); to++ {
			if ok, why := posix.Whole(n, s, api.Span{From: from, To: to}, fold); ok != ends[to] || why != api.OK {
				t.Fatalf("Whole(%s, %q, %d %d, %v) = %v, %d", show(n), s, from, to, fold, ok, why)
			}
		}
	}
	return true
}

// 9.2, 9.3, 9.6: all small expressions over all short texts.
func TestSmall(t *testing.T) {
	leaves := []api.Node{of("a"), of("b"), empty, back(1)}
	bounds := [][2]int{{0, -1}, {1, -1}, {0, 1}, {2, 2}, {1, 3}}
	short := texts("ab", 3)
	for size, every := range map[int]int{1: 1, 2: 1, 3: 1, 4: 1, 5: 7, 6: 211} {
		t.Run("", func(t *testing.T) {
			t.Parallel()
			for i, n := range twigs.Trees(size, leaves, bounds) {
				if i%every != 0 {
					continue
				}
				for _, s := range short {
					checkByWords(t, n, s, false)
				}
			}
		})
	}
}

// 9.2, 9.3, 9.6: grown expressions, with anchors, many groups and back-references; with more rounds than can be laid out, too.
func TestGrown(t *testing.T) {
	for part := range 8 {
		t.Run("", func(t *testing.T) {
			t.Parallel()
			chance := rand.New(rand.NewSource(int64(930 + part)))
			told := 0
			for i := range 4000 {
				n := twigs.Grow(chance.Intn, 3+i%14, i%2 == 0)
				if i%3 == 0 {
					n = beside(n)
				}
				for range 3 {
					if checkByWords(t, n, text(chance.Intn, "abAB"[:2+i%3], 5), i%5 == 0) {
						told++
					}
				}
			}
			if told < 10000 {
				t.Error("only a few could be told:", told)
			}
		})
	}
}

// allByWords is All by its words, step by step.
func allByWords(n api.Node, s string, fold bool) []api.Span {
	var out []api.Span
	place := 0
	for place <= len(s) {
		l, ok, _ := posix.Match(n, s, place, fold)
		if !ok {
			break
		}
		m := l[0]
		stands := len(out) > 0 && out[len(out)-1].To == m.From
		if m.From < m.To || !stands {
			out = append(out, m)
		}
		place = m.To
		if m.From == m.To {
			place++
		}
	}
	return out
}

// 9.4, 9.9: All by its words; its spans rise, do not overlap, and leave out nothing but what is empty.
func TestAll(t *testing.T) {
	chance := rand.New(rand.NewSource(94))
	for i := range 6000 {
		n := twigs.Grow(chance.Intn, 2+i%12, i%4 == 0)
		s := text(chance.Intn, "abA", 9)
		fold := i%2 == 0
		got, why := posix.All(n, s, fold)
		if want := allByWords(n, s, fold); why != api.OK || !slices.Equal(got, want) {
			t.Fatalf("All(%s, %q, %v) = %v, %d; not %v", show(n), s, fold, got, why, want)
		}
		at := 0
		for _, m := range append(got, api.Span{From: len(s), To: len(s)}) {
			if m.From < at || m.To < m.From {
				t.Fatalf("9.9: All(%s, %q) = %v", show(n), s, got)
			}
			for from := at; from <= m.From; from++ {
				for to := from + 1; to <= m.From; to++ {
					if ok, _ := posix.Whole(n, s, api.Span{From: from, To: to}, fold); ok {
						t.Fatalf("9.9: All(%s, %q) = %v leaves out %d to %d", show(n), s, got, from, to)
					}
				}
			}
			at = m.To
		}
	}
}

// 9.2, 9.3: places out of range, at the edges and one past them; an expression's error comes first.
func TestRange(t *testing.T) {
	n := ere(t, "a|")
	for _, at := range []api.Span{{From: -1, To: 0}, {From: -1, To: -1}, {From: 1, To: 0}, {From: 0, To: 3}, {From: 3, To: 3}, {From: 3, To: 2}, {From: -1 << 62, To: 1 << 62}, {From: 0, To: 1<<63 - 1}, {From: 2, To: 1}} {
		if ok, why := posix.Whole(n, "aa", at, false); ok || why != api.ErrRange {
			t.Error("Whole", at, ok, why)
		}
		if ok, why := posix.Whole(back(1), "aa", at, false); ok || why != api.ErrNode {
			t.Error("Whole of no expression", at, ok, why)
		}
	}
	for _, from := range []int{-1, 3, -1 << 63, 1<<63 - 1} {
		if l, ok, why := posix.Match(n, "aa", from, false); l != nil || ok || why != api.ErrRange {
			t.Error("Match", from, l, ok, why)
		}
		if l, ok, why := posix.Match(wide(api.MaxNodes+1), "aa", from, false); l != nil || ok || why != api.ErrMany {
			t.Error("Match of too many nodes", from, l, ok, why)
		}
	}
	if l, ok, why := posix.Match(n, "aa", 2, false); why != api.OK || !ok || !slices.Equal(l, []api.Span{{From: 2, To: 2}}) {
		t.Error("Match at the end", l, ok, why)
	}
	if ok, why := posix.Whole(n, "aa", api.Span{From: 2, To: 2}, false); !ok || why != api.OK {
		t.Error("Whole at the end", ok, why)
	}
	for _, n := range []api.Node{{}, back(1), cat(of("a"))} {
		if l, why := posix.All(n, "aa", false); l != nil || why != api.ErrNode {
			t.Error("All of no expression", l, why)
		}
	}
}

// 9.3, 9.4: the anchors are the text's, wherever it is looked from, and wherever the bytes end that are asked for.
func TestAnchors(t *testing.T) {
	for _, c := range []struct {
		e    string
		at   api.Span
		want bool
	}{
		{"^a", api.Span{From: 0, To: 1}, true}, {"^a", api.Span{From: 1, To: 2}, false}, {"a$", api.Span{From: 0, To: 1}, false}, {"a$", api.Span{From: 2, To: 3}, true}, {"a^", api.Span{From: 0, To: 1}, false}, {"$a", api.Span{From: 2, To: 3}, false}, {"($|a)*", api.Span{From: 0, To: 3}, true}, {"(^a|a$)a*(^|$)", api.Span{From: 0, To: 3}, true}, {"(^a|a$)a*(^|$)", api.Span{From: 1, To: 3}, false},
	} {
		if ok, why := posix.Whole(ere(t, c.e), "aaa", c.at, false); ok != c.want || why != api.OK {
			t.Error(c, ok, why)
		}
	}
}

// 9.3: with fold, each byte by each set of one byte.
func TestFold(t *testing.T) {
	for b := range 256 {
		for c := range 256 {
			if b%7 != 0 && c != b && c != b^32 {
				continue
			}
			n := of(string([]byte{byte(b)}))
			s := string([]byte{byte(c)})
			want := b == c || b^32 == c && (b|32) >= 'a' && (b|32) <= 'z'
			if ok, why := posix.Whole(n, s, api.Span{From: 0, To: 1}, true); ok != want || why != api.OK {
				t.Errorf("%q by %q: %v, %d", s, byte(b), ok, why)
			}
			two := string([]byte{byte(b), byte(c)})
			if ok, why := posix.Whole(cat(group(1, twigs.Any()), back(1)), two, api.Span{From: 0, To: 2}, true); ok != want || why != api.OK {
				t.Errorf("%q twice: %v, %d", two, ok, why)
			}
		}
	}
}
