package syntax_test

import (
	"strings"
	"testing"

	"paddock/api"
	"paddock/sets"
	"paddock/syntax"
	"paddock/twigs"
)

const (
	basic    = false
	extended = true
)

func class(name string) api.Set {
	s, _ := sets.Class(name)
	return s
}

// P8.1: what is read alike in both kinds.
func TestParseBoth(t *testing.T) {
	word := sets.Or(class("alnum"), sets.Of([]byte("_")))
	for s, want := range map[string]api.Node{
		"": empty, "a": of("a"), "ab": each("ab"), "ab*": cat(of("a"), repeat(0, -1, of("b"))), ".": any(), ".*": repeat(0, -1, any()),
		"^": begin, "$": end, "^$": cat(begin, end), "^a$": cat(begin, of("a"), end),
		"[ab]": of("ab"), "[^ab]": in(sets.Not(sets.Of([]byte("ab")))), "[]]*": repeat(0, -1, of("]")), "[a]b": each("ab"), "a[^]b]c": cat(of("a"), in(sets.Not(sets.Of([]byte("]b")))), of("c")), "[[:digit:]]": in(class("digit")), "[*.\\]": of("*.\\"), "[\\n]": of("\n"),
		"\\n": of("\n"), "\\t": of("\t"), "\\w": in(word), "\\W": in(sets.Not(word)), "\\s": in(class("space")), "\\S": in(sets.Not(class("space"))), "\\n*": repeat(0, -1, of("\n")),
		"\\.": of("."), "\\[": of("["), "\\]": of("]"), "\\*": of("*"), "\\^": of("^"), "\\$": of("$"), "\\\\": of("\\"), "\\/": of("/"), "\\_": of("_"), "\\-": of("-"), "\\\n": of("\n"), "\\\x00": of("\x00"), "\\\xff": of("\xff"), "\\ ": of(" "), "\\@": of("@"), "\\`": of("`"), "\\:": of(":"),
		"]": of("]"), "}": of("}"), "a}": each("a}"), "\n": of("\n"), "\x00\xff": each("\x00\xff"), ",": of(","), "a,b": each("a,b"), "-": of("-"),
	} {
		for _, ext := range []bool{basic, extended} {
			if n, why, at := syntax.Parse(s, ext); !same(n, want) || why != api.OK || at != 0 {
				t.Errorf("Parse(%q, %v) = %s, %d, %d; not %s", s, ext, show(n), why, at, show(want))
			}
		}
	}
}

// P8.1: extended ones.
func TestParseExtended(t *testing.T) {
	for s, want := range map[string]api.Node{
		"a|": alt(of("a"), empty), "|a": alt(empty, of("a")), "|": alt(empty, empty), "a||b": alt(of("a"), empty, of("b")), "ab|c": alt(each("ab"), of("c")), "a|b|c": alt(of("a"), of("b"), of("c")),
		"(a)\\1": cat(group(1, of("a")), back(1)), "()": group(1, empty), "()*": repeat(0, -1, group(1, empty)), "(a|b)": group(1, alt(of("a"), of("b"))), "((a)(b))(c)": cat(group(1, cat(group(2, of("a")), group(3, of("b")))), group(4, of("c"))),
		"(a)|\\1": alt(group(1, of("a")), back(1)), "((a)\\2)\\1": cat(group(1, cat(group(2, of("a")), back(2))), back(1)), "(a)\\1*": cat(group(1, of("a")), repeat(0, -1, back(1))), "(a)\\12": cat(group(1, of("a")), back(1), of("2")), "(a)\\10": cat(group(1, of("a")), back(1), of("0")),
		"()()()()()()()()()\\9": cat(group(1, empty), group(2, empty), group(3, empty), group(4, empty), group(5, empty), group(6, empty), group(7, empty), group(8, empty), group(9, empty), back(9)),
		"a+":                    repeat(1, -1, of("a")), "a?": repeat(0, 1, of("a")), "a{2,3}": repeat(2, 3, of("a")), "a{2}": repeat(2, 2, of("a")), "a{2,}": repeat(2, -1, of("a")), "a{0}": repeat(0, 0, of("a")), "a{0,0}": repeat(0, 0, of("a")), "a{0,}": repeat(0, -1, of("a")), "a{255}": repeat(255, 255, of("a")), "a{255,}": repeat(255, -1, of("a")), "a{255,255}": repeat(255, 255, of("a")), "a{0,255}": repeat(0, 255, of("a")), "a{007,010}": repeat(7, 10, of("a")), "a{0000000000000000000000255}": repeat(255, 255, of("a")),
		"a^b$c": cat(of("a"), begin, of("b"), end, of("c")), "^^": cat(begin, begin), "$^": cat(end, begin), "(^a$)": group(1, cat(begin, of("a"), end)), "^|$": alt(begin, end), "a^": cat(of("a"), begin),
		"\\(\\)\\{\\}\\|\\+\\?": each("(){}|+?"), "\\+*": repeat(0, -1, of("+")), "[(]": of("("), "[|]|[)]": alt(of("|"), of(")")), "a{1}b": cat(repeat(1, 1, of("a")), of("b")), "(a){2}": repeat(2, 2, group(1, of("a"))), "a{1}}": cat(repeat(1, 1, of("a")), of("}")), "(a{2}|b)+": repeat(1, -1, group(1, alt(repeat(2, 2, of("a")), of("b")))),
	} {
		if n, why, at := syntax.Parse(s, extended); !same(n, want) || why != api.OK || at != 0 {
			t.Errorf("Parse(%q, ERE) = %s, %d, %d; not %s", s, show(n), why, at, show(want))
		}
	}
}

// P8.1: basic ones.
func TestParseBasic(t *testing.T) {
	for s, want := range map[string]api.Node{
		"\\(*a\\)*": repeat(0, -1, group(1, each("*a"))), "^*a$": cat(begin, of("*"), of("a"), end), "a^b$c": each("a^b$c"), "a+": each("a+"), "a\\+": repeat(1, -1, of("a")), "a\\?": repeat(0, 1, of("a")), "a\\{2,3\\}": repeat(2, 3, of("a")), "a\\{2\\}": repeat(2, 2, of("a")), "a\\{2,\\}": repeat(2, -1, of("a")), "a\\{255,255\\}": repeat(255, 255, of("a")), "a\\{09\\}": repeat(9, 9, of("a")),
		"*": of("*"), "**": repeat(0, -1, of("*")), "*\\{2\\}": repeat(2, 2, of("*")), "*\\+": repeat(1, -1, of("*")), "^*": cat(begin, of("*")), "^**": cat(begin, repeat(0, -1, of("*"))), "a\\|*b": alt(of("a"), each("*b")), "a\\|^*": alt(of("a"), cat(begin, of("*"))), "\\(^*\\)": group(1, cat(begin, of("*"))), "$*": repeat(0, -1, of("$")), "^$*": cat(begin, repeat(0, -1, of("$"))), "$a": each("$a"), "$$": cat(of("$"), end), "^^": cat(begin, of("^")), "^^*": cat(begin, repeat(0, -1, of("^"))), "a^": each("a^"), "a^*": cat(of("a"), repeat(0, -1, of("^"))), "$^": each("$^"), "$\\+": repeat(1, -1, of("$")), "$\\{2\\}": repeat(2, 2, of("$")), "$\\n": each("$\n"), "$\\\\": each("$\\"),
		"\\(a\\|b\\)": group(1, alt(of("a"), of("b"))), "\\(a$\\)": group(1, cat(of("a"), end)), "a$\\|b$": alt(cat(of("a"), end), cat(of("b"), end)), "\\(^a\\)": group(1, cat(begin, of("a"))), "\\($\\)": group(1, end), "\\|": alt(empty, empty), "\\(\\)": group(1, empty), "a\\|": alt(of("a"), empty), "\\(^\\|$\\)": group(1, alt(begin, end)),
		"(){}|+?": each("(){}|+?"), "a{2}": each("a{2}"), "\\(a\\)\\1": cat(group(1, of("a")), back(1)), "\\(a\\)\\1*": cat(group(1, of("a")), repeat(0, -1, back(1))), "\\(a\\)*\\1": cat(repeat(0, -1, group(1, of("a"))), back(1)), "\\\\(": each("\\("), "[\\(]": of("\\("), "[*]*": repeat(0, -1, of("*")), "\\(\\(a\\)b\\)\\2\\1": cat(group(1, cat(group(2, of("a")), of("b"))), back(2), back(1)),
	} {
		if n, why, at := syntax.Parse(s, basic); !same(n, want) || why != api.OK || at != 0 {
			t.Errorf("Parse(%q, BRE) = %s, %d, %d; not %s", s, show(n), why, at, show(want))
		}
	}
}

// P8.1: faults and their places.
func TestParseFaults(t *testing.T) {
	for _, c := range []struct {
		s   string
		ext bool
		at  int
	}{
		{"a**", extended, 2}, {"*", extended, 0}, {"(", extended, 1}, {"a)", extended, 1}, {"a\\)", basic, 2}, {"\\1", extended, 1}, {"(a\\1)", extended, 3}, {"a{3,2}", extended, 5}, {"a\\{3,2\\}", basic, 6}, {"a{256}", extended, 4}, {"\\d", extended, 1}, {"[a", extended, 2}, {"^*", extended, 1}, {"\\+", basic, 1},
		{"+", extended, 0}, {"?", extended, 0}, {"{", extended, 0}, {"{1}", extended, 0}, {")", extended, 0}, {"a|*", extended, 2}, {"(*a)", extended, 1}, {"$*", extended, 1}, {"a^*", extended, 2}, {"^{1}", extended, 1}, {"a+*", extended, 2}, {"a{1}{2}", extended, 4}, {"a{1}*", extended, 4}, {"a?+", extended, 2}, {"(a", extended, 2}, {"((a)", extended, 4}, {"(a))", extended, 3}, {"(a|", extended, 3}, {"a|b)", extended, 3},
		{"a{", extended, 2}, {"a{x}", extended, 2}, {"a{}", extended, 2}, {"a{,3}", extended, 2}, {"a{1", extended, 3}, {"a{1x}", extended, 3}, {"a{1,", extended, 4}, {"a{1,x}", extended, 4}, {"a{1,2", extended, 5}, {"a{1,2x", extended, 5}, {"a{1,2,3}", extended, 5}, {"a{-1}", extended, 2}, {"a{1 }", extended, 3}, {"a{1\\}", extended, 3},
		{"a{3,2", extended, 5}, {"a{3,2x", extended, 5}, {"a{30,3}", extended, 6}, {"a{255,26}", extended, 8}, {"a{255,26x", extended, 8}, {"a{255,260}", extended, 8}, {"a{255,256}", extended, 8}, {"a{256,1}", extended, 4}, {"a{1,256}", extended, 6}, {"a{999}", extended, 4}, {"a{00256}", extended, 6}, {"a{99999999999999999999999}", extended, 4},
		{"\\", extended, 1}, {"a\\", extended, 2}, {"\\0", extended, 1}, {"\\b", extended, 1}, {"\\A", extended, 1}, {"\\z", extended, 1}, {"\\Z", extended, 1}, {"\\a", extended, 1}, {"\\9", extended, 1}, {"(a)\\2", extended, 4}, {"((a)\\1)", extended, 5}, {"(a)(\\2)", extended, 5}, {"(a)\\0", extended, 4}, {"\\1(a)", extended, 1}, {"\\1|(a)", extended, 1},
		{"[", extended, 1}, {"[]", extended, 2}, {"[^", extended, 2}, {"[^]", extended, 3}, {"ab[c-a]", extended, 5}, {"[[:word:]]", extended, 1}, {"a[x[.ab.]]", extended, 3}, {"(a[", extended, 3}, {"[a-[:digit:]]", extended, 3}, {"[a(", extended, 3},
		{"a**", basic, 2}, {"a*\\+", basic, 3}, {"a*\\{2\\}", basic, 3}, {"a\\+*", basic, 3}, {"\\?", basic, 1}, {"\\{", basic, 1}, {"\\{1\\}", basic, 1}, {"^\\{1\\}", basic, 2}, {"^\\+", basic, 2}, {"\\}", basic, 1}, {"a\\}", basic, 2}, {"\\(\\+", basic, 3}, {"\\(\\}", basic, 3}, {"a\\|\\?", basic, 4}, {"***", basic, 2}, {"^***", basic, 3},
		{"\\(", basic, 2}, {"\\(a", basic, 3}, {"\\)", basic, 1}, {"\\(a\\)\\)", basic, 6}, {"a$\\)", basic, 3}, {"\\(a\\", basic, 4}, {"\\", basic, 1}, {"a\\", basic, 2}, {"\\1", basic, 1}, {"\\(a\\1\\)", basic, 4}, {"\\d", basic, 1}, {"\\0", basic, 1}, {"[a", basic, 2}, {"x[b-a]", basic, 4}, {"\\([[:x:]]\\)", basic, 3},
		{"a\\{", basic, 3}, {"a\\{x", basic, 3}, {"a\\{1", basic, 4}, {"a\\{1}", basic, 4}, {"a\\{1\\", basic, 5}, {"a\\{1\\x", basic, 5}, {"a\\{1,\\)", basic, 6}, {"a\\{1,x", basic, 5}, {"a\\{3,2\\x", basic, 6}, {"a\\{3,2", basic, 6}, {"a\\{3,2x", basic, 6}, {"a\\{256\\}", basic, 5}, {"a\\{,2\\}", basic, 3}, {"a\\{1,2\\", basic, 7}, {"a\\{1,2}", basic, 6},
	} {
		if n, why, at := syntax.Parse(c.s, c.ext); !isZero(n) || why != api.ErrSyntax || at != c.at {
			t.Errorf("Parse(%q, %v) = %s, %d at %d, not at %d", c.s, c.ext, show(n), why, at, c.at)
		}
	}
}

// P8.1: each byte behind a \ , in both kinds, one by one.
func TestEscapes(t *testing.T) {
	for b := range 256 {
		c := byte(b)
		s := "\\" + string([]byte{c})
		letter := sets.Has(class("alpha"), c)
		digit := c >= '0' && c <= '9'
		for _, ext := range []bool{basic, extended} {
			n, why, at := syntax.Parse(s, ext)
			switch {
			case strings.IndexByte("ntwWsS", c) >= 0 || !ext && strings.IndexByte("(){}|+?", c) >= 0: // told elsewhere
			case letter || digit:
				if !isZero(n) || why != api.ErrSyntax || at != 1 {
					t.Errorf("%q, %v: %s, %d, %d", s, ext, show(n), why, at)
				}
			default:
				if !same(n, of(s[1:])) || why != api.OK || at != 0 {
					t.Errorf("%q, %v: %s, %d, %d", s, ext, show(n), why, at)
				}
			}
		}
	}
}

// P8.1: MaxPattern at it, and one past it: how long it is comes ahead of all that is wrong with it.
func TestParseLong(t *testing.T) {
	for _, ext := range []bool{basic, extended} {
		s := strings.Repeat("a", api.MaxPattern)
		if n, why, at := syntax.Parse(s, ext); !same(n, each(s)) || why != api.OK || at != 0 {
			t.Errorf("%d bytes: %d, %d", len(s), why, at)
		}
		if n, why, at := syntax.Parse(s[1:]+"\\", ext); !isZero(n) || why != api.ErrSyntax || at != api.MaxPattern {
			t.Errorf("a \\ at the end: %d, %d", why, at)
		}
		for _, s := range []string{s + "a", "\\1)" + s, strings.Repeat("(", api.MaxPattern+1)} {
			if n, why, at := syntax.Parse(s, ext); !isZero(n) || why != api.ErrLong || at != 0 {
				t.Errorf("%d bytes: %s, %d, %d", len(s), show(n), why, at)
			}
		}
	}
}

// P8.1: MaxGroups and MaxNest at them, and one past them, at the ( itself; and which fault comes first.
func TestParseMany(t *testing.T) {
	for _, ext := range []bool{basic, extended} {
		open, shut := "(", ")"
		if !ext {
			open, shut = "\\(", "\\)"
		}
		flat := func(n int) string { return strings.Repeat(open+shut, n) }
		deep := func(n int) string { return strings.Repeat(open, n) + "a" + strings.Repeat(shut, n) }
		for _, s := range []string{flat(api.MaxGroups), deep(api.MaxNest), deep(api.MaxNest) + flat(api.MaxGroups-api.MaxNest)} {
			if n, why, at := syntax.Parse(s, ext); why != api.OK || at != 0 || !syntax.Right(n) {
				t.Errorf("%q: %d, %d", s, why, at)
			}
		}
		n, _, _ := syntax.Parse(deep(api.MaxNest), ext)
		if !same(n, nest(api.MaxNest, of("a"), group)) {
			t.Errorf("%d deep: %s", api.MaxNest, show(n))
		}
		last := len(open) - 1
		for _, c := range []struct {
			s    string
			why  api.Errno
			at   int
			what string
		}{
			{flat(api.MaxGroups + 1), api.ErrMany, len(flat(api.MaxGroups)) + last, "one group too many"},
			{deep(api.MaxNest + 1), api.ErrMany, len(open)*api.MaxNest + last, "one too deep"},
			{deep(api.MaxNest) + flat(api.MaxGroups-api.MaxNest+1), api.ErrMany, len(deep(api.MaxNest)+flat(api.MaxGroups-api.MaxNest)) + last, "one too many behind deep ones"},
			{flat(api.MaxGroups) + "[" + open, api.ErrSyntax, len(flat(api.MaxGroups) + "[" + open), "a bracket's end is missing"},
			{"x**" + flat(api.MaxGroups+1), api.ErrSyntax, 2, "wrong ahead of one too many"},
			{flat(api.MaxGroups+1) + "**", api.ErrMany, len(flat(api.MaxGroups)) + last, "wrong behind one too many"},
			{strings.Repeat(open, api.MaxNest+1), api.ErrMany, len(open)*api.MaxNest + last, "too deep, and never ended"},
			{strings.Repeat(open, api.MaxNest), api.ErrSyntax, len(open) * api.MaxNest, "never ended"},
		} {
			if n, why, at := syntax.Parse(c.s, ext); !isZero(n) || why != c.why || at != c.at {
				t.Errorf("%s: %s, %d at %d, not %d at %d", c.what, show(n), why, at, c.why, c.at)
			}
		}
	}
}

// P8.1: groups beyond the ninth, which no back-reference names.
func TestBacks(t *testing.T) {
	groups := strings.Repeat("()", 12)
	for d := byte('1'); d <= '9'; d++ {
		for n := 1; n <= 12; n++ {
			s := groups[:2*n] + "\\" + string(d)
			_, why, at := syntax.Parse(s, extended)
			if ok := int(d-'0') <= n; ok && why != api.OK || !ok && (why != api.ErrSyntax || at != 2*n+1) {
				t.Errorf("%q: %d, %d", s, why, at)
			}
		}
	}
}

// P8.9: an expression in a group.
func TestInGroup(t *testing.T) {
	seen := 0
	for _, n := range grown(89, 3000) {
		for _, ext := range []bool{basic, extended} {
			s, why := syntax.Print(n, ext)
			if why != api.OK || len(s)+4 > api.MaxPattern || hasBack(n) {
				continue
			}
			wrapped := "(" + s + ")"
			if !ext {
				wrapped = "\\(" + s + "\\)"
			}
			want, _ := twigs.Numbered(group(0, n))
			got, why, at := syntax.Parse(wrapped, ext)
			if !same(got, want) || why != api.OK {
				t.Fatalf("P8.9: %q: %s, %d, %d", wrapped, show(got), why, at)
			}
			seen++
		}
	}
	if seen < 2000 {
		t.Error("only", seen)
	}
}

func hasBack(n api.Node) bool {
	for _, k := range n.Kids {
		if hasBack(k) {
			return true
		}
	}
	return n.Kind == api.NodeBack
}

// P1, P8.1, P8.6, P8.8: any bytes.
func FuzzParse(f *testing.F) {
	for _, s := range []string{"(a|b)*\\1[^]x-z]{2,3}$", "\\(^*a\\)\\{1,\\}\\1\\|$", "a{3,2", "[[:alpha:]", "\\w\\W\\s\\S\\n\\t\\.", "((((", "\xff\x00"} {
		f.Add(s, true)
		f.Add(s, false)
	}
	f.Fuzz(func(t *testing.T, s string, ext bool) {
		n, why, at := syntax.Parse(s, ext)
		if why != api.OK {
			if !isZero(n) || at < 0 || at > len(s) || why != api.ErrSyntax && why != api.ErrMany && why != api.ErrLong {
				t.Errorf("%q: %s, %d, %d", s, show(n), why, at)
			}
			return
		}
		if !syntax.Right(n) || at != 0 {
			t.Errorf("%q: %s is not right", s, show(n))
		}
		for _, x := range []bool{ext, extended} {
			p, why := syntax.Print(n, x)
			if why == api.ErrLong {
				continue
			}
			if again, no, _ := syntax.Parse(p, x); why != api.OK || no != api.OK || !same(again, n) {
				t.Errorf("%q is written %q, %d, and read as %s", s, p, why, show(again))
			}
		}
	})
}
