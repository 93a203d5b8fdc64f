package trees_test

import (
	"regexp"
	"slices"
	"strings"
	"testing"

	"paddock/api"
	"paddock/trees"
	"paddock/wood"
)

// words are all texts over an alphabet with at most so many bytes.
func words(alphabet string, length int) []string {
	out := []string{""}
	for from := 0; length > 0; length-- {
		to := len(out)
		for _, s := range out[from:to] {
			for i := range len(alphabet) {
				out = append(out, s+alphabet[i:i+1])
			}
		}
		from = to
	}
	return out
}

// item is an item of a bracket.
type item struct{ low, high byte }

// The grammar by the chapter's words, each thing by an expression. That a range rises is asked beside it.
var (
	bareItem  = `(?:\\[^/]|[^/\\\]])`
	firstItem = `(?:\\[^/]|[^/\\])`
	bracketIs = regexp.MustCompile(`(?s)^(` + firstItem + `(?:-` + bareItem + `)?(?:` + bareItem + `(?:-` + bareItem + `)?)*)\]`)
	itemIs    = regexp.MustCompile(`(?s)^(` + firstItem + `)(?:-(` + bareItem + `))?`)
)

// bracket is what a bracket at a text's beginning is: its bytes, how long it is; 0: there is none. A ! that stands first is never an item.
func bracket(s string) (func(byte) bool, int) {
	body, not := strings.CutPrefix(s[1:], "!")
	m := bracketIs.FindStringSubmatch(body)
	if m == nil {
		return nil, 0
	}
	var items []item
	for rest := m[1]; rest != ""; {
		one := itemIs.FindStringSubmatch(rest)
		rest = rest[len(one[0]):]
		low := one[1][len(one[1])-1]
		high := low
		if one[2] != "" {
			high = one[2][len(one[2])-1]
		}
		if high < low {
			return nil, 0
		}
		items = append(items, item{low, high})
	}
	return func(b byte) bool {
		in := slices.ContainsFunc(items, func(x item) bool { return x.low <= b && b <= x.high })
		return in != not
	}, len(s) - len(body) + len(m[0])
}

// asExpression is a pattern as an expression over paths' own texts; false: it is none.
func asExpression(s string) (string, bool) {
	if s == "" || s[0] != '/' {
		return "", false
	}
	out := "(?s)^"
	for s != "" {
		rest := s[1:]
		body := ""
		for rest != "" && rest[0] != '/' {
			n := 1
			switch {
			case rest[0] == '*':
				body += "[^/]*"
			case rest[0] == '?':
				body += "[^/]"
			case rest[0] == '[':
				var in func(byte) bool
				if in, n = bracket(rest); n == 0 {
					return "", false
				}
				body += "(?:[^\\x00-\\x7f]{0}"
				for b := byte(1); b < 128; b++ {
					if b != '/' && in(b) {
						body += "|" + regexp.QuoteMeta(string(rune(b)))
					}
				}
				body = strings.Replace(body, "(?:[^\\x00-\\x7f]{0}|", "(?:", 1)
				body = strings.Replace(body, "(?:[^\\x00-\\x7f]{0}", "(?:[^\\x00-\\x{10ffff}]", 1)
				body += ")"
			case rest[0] == '\\':
				if len(rest) == 1 || rest[1] == '/' {
					return "", false
				}
				n = 2
				body += regexp.QuoteMeta(rest[1:2])
			default:
				body += regexp.QuoteMeta(rest[:1])
			}
			rest = rest[n:]
		}
		part := s[1 : len(s)-len(rest)]
		switch part {
		case "":
			return "", false
		case "**":
			out += "(?:/[^/]*)*"
		default:
			out += "/" + body
		}
		s = rest
	}
	return out + "$", true
}

// placeMeant is where no pattern goes on any more, by trying: each beginning that goes on at all goes on with one of these.
func placeMeant(s string) int {
	for at := range len(s) + 1 {
		goes := slices.ContainsFunc([]string{"", "~", "]", "~]"}, func(end string) bool {
			_, ok := asExpression(s[:at] + end)
			return ok
		})
		if at == 0 {
			goes = true
		}
		if goes {
			continue
		}
		at-- // the byte with which it does not go on
		// Of an end that is below its beginning the backslash counts.
		if at > 0 && s[at-1] == '\\' && s[at] != '/' {
			at--
		}
		return at
	}
	return len(s)
}

// 3.10: all texts over the bytes that matter, whether they are patterns, and where not.
func TestPatternPlaces(t *testing.T) {
	var all []string
	for _, s := range words("/*[]!-\\ab", 3) {
		all = append(all, s)
	}
	for _, s := range words("*[]-\\b/a", 4) {
		all = append(all, "/"+s, "/["+s, "/[!"+s, "/[b-"+s)
	}
	for _, s := range words("]-\\ab!/", 4) {
		all = append(all, "/[a"+s+"]", "/x/[b"+s, "/["+s+"]b")
	}
	for _, s := range all {
		_, ok := asExpression(s)
		_, why, at := trees.Matches(s, wood.Path("a"))
		if ok && (why != api.OK || at != 0) || !ok && (why != api.ErrPattern || at != placeMeant(s)) {
			t.Fatalf("Matches(%q, a): %d at %d; a pattern: %v, place %d", s, why, at, ok, placeMeant(s))
		}
	}
}

// 3.10: the chapter's examples and further places.
func TestPatternFaults(t *testing.T) {
	for _, c := range []struct {
		s  string
		at int
	}{
		{"", 0}, {"a", 0}, {"/a//b", 3}, {"/a/", 3}, {"/[a", 3}, {"/[b-a]", 4}, {"/a\\", 3}, {"/[a/b]", 3},
		{"/", 1}, {"//", 1}, {"*", 0}, {" /a", 0}, {"/\\", 2}, {"/\\/", 2}, {"/[", 2}, {"/[!", 3}, {"/[]", 3}, {"/[!]", 4}, {"/[]a", 4}, {"/[/", 2}, {"/[!/", 3},
		{"/[a-", 4}, {"/[a-/", 4}, {"/[a-\\", 5}, {"/[a-\\/", 5}, {"/[b-\\a]", 4}, {"/[b-\\a", 4}, {"/[b-a", 4}, {"/[b-a/", 4}, {"/[\\", 3}, {"/[\\]", 4}, {"/[\\/]", 3}, {"/[a\\", 4},
		{"/[\xff-\xfe]", 4}, {"/[a-c-b]/", 9}, {"/[--+]", 4}, {"/[]-[]", 4}, {"/**/", 4}, {"/**//", 4}, {"/a/[b/c", 5}, {"/a/\\", 4},
	} {
		for _, p := range []api.Path{nil, wood.Path("a"), {""}} {
			if ok, why, at := trees.Matches(c.s, p); ok || why != api.ErrPattern || at != c.at {
				t.Errorf("Matches(%q, %q) = %v, %d, %d; not at %d", c.s, p, ok, why, at, c.at)
			}
		}
		if l, why, at := trees.Find(grove(), c.s); l != nil || why != api.ErrPattern || at != c.at {
			t.Errorf("Find(%q) = %q, %d, %d; not at %d", c.s, l, why, at, c.at)
		}
	}
}

// 3.10
func TestMatches(t *testing.T) {
	for _, c := range []struct {
		s    string
		p    api.Path
		want bool
	}{
		{"/a*b", wood.Path("a xx b"), false}, {"/a*b", wood.Path("axxb"), true}, {"/\\*", wood.Path("*"), true}, {"/\\*", wood.Path("a"), false}, {"/**", nil, true},
		{"/a", nil, false}, {"/*", nil, false}, {"/*", api.Path{""}, true}, {"/?", api.Path{""}, false}, {"/?", wood.Path("a"), true}, {"/?", api.Path{"/"}, true}, {"/?", api.Path{"\x00"}, true}, {"/?", wood.Path("ab"), false}, {"/?", api.Path{"\xff"}, true},
		{"/**", wood.Path("a b c"), true}, {"/**", api.Path{"", "/", ".."}, true}, {"/**/**", nil, true}, {"/**/a", wood.Path("a"), true}, {"/a/**", wood.Path("a"), true}, {"/a/**", wood.Path("a b c"), true}, {"/a/**", wood.Path("b"), false}, {"/**/a/**/b/**", wood.Path("x a y b z"), true}, {"/**/a/**/b/**", wood.Path("x b y a z"), false}, {"/**/a/b", wood.Path("a a a b"), true}, {"/**/a/b", wood.Path("a b a"), false},
		{"/***", wood.Path("abc"), true}, {"/***", wood.Path("a b"), false}, {"/***", nil, false}, {"/a**", wood.Path("abc"), true}, {"/a**", wood.Path("a b"), false}, {"/**a", wood.Path("ba"), true}, {"/**a", wood.Path("b a"), false}, {"/*\\*", wood.Path("a*"), true}, {"/\\**", wood.Path("*a"), true}, {"/\\**", wood.Path("a b"), false}, {"/\\*\\*", wood.Path("**"), true}, {"/[*]*", wood.Path("*a"), true},
		{"/[ab]", wood.Path("a"), true}, {"/[ab]", wood.Path("c"), false}, {"/[!ab]", wood.Path("c"), true}, {"/[!ab]", wood.Path("a"), false}, {"/[!ab]", api.Path{""}, false}, {"/[!a]", api.Path{"\xff"}, true}, {"/[!a]", api.Path{"\x00"}, true}, {"/[!a]", api.Path{"/"}, true},
		{"/[a-c]", wood.Path("b"), true}, {"/[a-c]", wood.Path("c"), true}, {"/[a-c]", wood.Path("d"), false}, {"/[a-c]", wood.Path("-"), false}, {"/[a-a]", wood.Path("a"), true}, {"/[!a-c]", wood.Path("b"), false}, {"/[\x01-\xff]", wood.Path("\xff"), true}, {"/[\x80-\xfe]", wood.Path("\xff"), false},
		{"/[]]", wood.Path("]"), true}, {"/[!]]", wood.Path("]"), false}, {"/[!]]", wood.Path("a"), true}, {"/[]a]", wood.Path("a"), true}, {"/[]-a]", wood.Path("^"), true}, {"/[]-]", wood.Path("-"), true}, {"/[]-]", wood.Path("]"), true}, {"/[a-]", wood.Path("-"), true}, {"/[a-]", wood.Path("b"), false}, {"/[-a]", wood.Path("-"), true}, {"/[--0]", wood.Path("."), true}, {"/[a-c-e]", wood.Path("-"), true}, {"/[a-c-e]", wood.Path("d"), false}, {"/[a-c-e]", wood.Path("e"), true},
		{"/[\\]]", wood.Path("]"), true}, {"/[\\]]", wood.Path("\\"), false}, {"/[\\\\]", wood.Path("\\"), true}, {"/[\\!a]", wood.Path("!"), true}, {"/[\\!a]", wood.Path("b"), false}, {"/[a!]", wood.Path("!"), true}, {"/[!!]", wood.Path("!"), false}, {"/[!!]", wood.Path("a"), true}, {"/[a\\-z]", wood.Path("b"), false}, {"/[a\\-z]", wood.Path("-"), true}, {"/[\\a-\\c]", wood.Path("b"), true}, {"/[Z-\\]]", wood.Path("]"), true}, {"/[\\--0]", wood.Path("."), true}, {"/[a-]b]", wood.Path("-b]"), true}, {"/[[]", wood.Path("["), true}, {"/[?]", wood.Path("?"), true}, {"/[?]", wood.Path("a"), false},
		{"/]", wood.Path("]"), true}, {"/!-", wood.Path("!-"), true}, {"/\\a", wood.Path("a"), true}, {"/\\\\", wood.Path("\\"), true}, {"/\\[a]", wood.Path("[a]"), true}, {"/\\?", wood.Path("?"), true}, {"/\\?", wood.Path("a"), false}, {"/\x00", api.Path{"\x00"}, true},
		{"/a/b", wood.Path("a b"), true}, {"/a/b", wood.Path("a"), false}, {"/a/b", wood.Path("a b c"), false}, {"/a", api.Path{"a/b"}, false}, {"/*", api.Path{"a/b"}, true}, {"/a/b", api.Path{"a/b"}, false}, {"/A", wood.Path("a"), false},
		{"/*a*b*c*", wood.Path("xaybzc"), true}, {"/*a*b*c*", wood.Path("xcybza"), false}, {"/*ab", wood.Path("aab"), true}, {"/*aab", wood.Path("aaab"), true}, {"/*a?b", wood.Path("aacab"), false}, {"/*a?b", wood.Path("aacb"), true}, {"/*..", api.Path{".."}, true},
	} {
		if ok, why, at := trees.Matches(c.s, c.p); ok != c.want || why != api.OK || at != 0 {
			t.Errorf("Matches(%q, %q) = %v, %d, %d", c.s, c.p, ok, why, at)
		}
	}
}

// 3.10: small patterns and small paths, all of them, against expressions.
func TestMatchesAsMeant(t *testing.T) {
	var paths []api.Path
	names := words("ab-", 3)[1:]
	for _, name := range append(names, "]", "*", "\\", "!", "[a]", "**") {
		paths = append(paths, api.Path{name})
	}
	for _, name := range []string{"a", "b", "ab"} {
		for _, other := range []string{"a", "b", "]"} {
			paths = append(paths, api.Path{name, other}, api.Path{name, other, "a"}, api.Path{other, other, name})
		}
	}
	paths = append(paths, nil)
	var patterns []string
	for _, s := range words("*?a/[]", 4) {
		patterns = append(patterns, "/"+s)
	}
	for _, s := range words("*a/", 6) {
		patterns = append(patterns, "/"+s)
	}
	for _, s := range words("!a-\\]b", 4) {
		patterns = append(patterns, "/["+s+"]", "/*["+s+"]b")
	}
	for _, s := range patterns {
		expression, ok := asExpression(s)
		if !ok {
			continue
		}
		is := regexp.MustCompile(expression)
		for _, p := range paths {
			if got, why, _ := trees.Matches(s, p); got != is.MatchString(wood.Own(p)) || why != api.OK {
				t.Fatalf("Matches(%q, %q) = %v, %d", s, p, got, why)
			}
		}
	}
}

// 3.10
func TestFind(t *testing.T) {
	for _, c := range []struct{ s, want string }{
		{"/*", "/a /c"}, {"/**", "/a /a/b /c"}, {"/**/b", "/a/b"}, {"/[!a-b]", "/c"}, {"/a/?", "/a/b"}, {"/z", ""}, {"/a", "/a"}, {"/**/a/**", "/a /a/b"}, {"/c/*", ""}, {"/**/**", "/a /a/b /c"},
	} {
		l, why, at := trees.Find(grove(), c.s)
		var got []string
		for _, p := range l {
			got = append(got, wood.Own(p))
		}
		if strings.Join(got, " ") != c.want || why != api.OK || at != 0 {
			t.Errorf("Find(T, %q) = %q, %d, %d", c.s, l, why, at)
		}
	}
	for _, g := range append(small(), odd()...) {
		list, _ := trees.List(g)
		for _, s := range []string{"/**", "/*", "/*/*", "/**/b", "/a*/**", "/?", "/[!a]*"} {
			var want []api.Path
			for _, k := range list {
				if ok, _, _ := trees.Matches(s, k.Path); ok {
					want = append(want, k.Path)
				}
			}
			if l, why, at := trees.Find(g, s); why != api.OK || at != 0 || !samePaths(l, want) {
				t.Fatalf("Find(%v, %q) = %q, %d, %d", g, s, l, why, at)
			}
		}
	}
}

// 3.11
func TestPlainPatterns(t *testing.T) {
	var paths []api.Path
	for _, s := range []string{"a", "b", "a b", "b a", "a b a", "ab", "a ab", "]", "! -", "a-b", "... ^", "\xff"} {
		paths = append(paths, wood.Path(s))
	}
	for _, p := range paths {
		for _, q := range append(paths, nil) {
			if ok, why, _ := trees.Matches(wood.Own(p), q); why != api.OK || ok != slices.Equal(p, q) {
				t.Errorf("Matches(%q, %q) = %v, %d", wood.Own(p), q, ok, why)
			}
		}
	}
	for _, p := range append(paths, nil, api.Path{""}, api.Path{"/", "\x00"}, wood.Path("* ** [ \\")) {
		if ok, why, _ := trees.Matches("/**", p); why != api.OK || !ok {
			t.Errorf("Matches of all, %q: %v, %d", p, ok, why)
		}
	}
	for _, s := range words("*a?/", 5) {
		s = "/" + s
		parts := strings.Split(s[1:], "/")
		for _, p := range append(paths, nil) {
			if ok, why, _ := trees.Matches(s, p); why == api.OK && !slices.Contains(parts, "**") && ok && len(p) != len(parts) {
				t.Fatalf("Matches(%q, %q)", s, p)
			}
		}
	}
}

// P1: any bytes; and patterns that a search by trying would never be done with.
func TestPatternsEnd(t *testing.T) {
	for b := range 256 {
		for c := range 256 {
			s := string([]byte{'/', byte(b), byte(c)})
			trees.Matches(s, api.Path{s, s})
			trees.Matches("/["+s[1:]+"]", api.Path{s})
			trees.Find(grove(), s)
		}
	}
	s := "/" + strings.Repeat("*a", 1000) + "b"
	if ok, why, _ := trees.Matches(s, api.Path{strings.Repeat("a", 20000)}); ok || why != api.OK {
		t.Errorf("Matches of many stars: %v, %d", ok, why)
	}
	s = strings.Repeat("/**/a", 1000) + "/b"
	if ok, why, _ := trees.Matches(s, slices.Repeat(api.Path{"a"}, 5000)); ok || why != api.OK {
		t.Errorf("Matches of many parts: %v, %d", ok, why)
	}
}
