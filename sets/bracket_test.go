package sets_test

import (
	"regexp"
	"strings"
	"testing"

	"paddock/api"
	"paddock/sets"
)

// 7.2: the examples, and what else the words name.
func TestBracket(t *testing.T) {
	for _, c := range []struct {
		s, want string
		n       int
	}{
		{"a-c]x", "abc", 4}, {"]a]", "]a", 3}, {"a-]", "a-", 3}, {"--0]", "-./0", 4}, {"[:digit:]x]", "0123456789x", 11}, {"\\n]", "\n", 3}, {"[.-.]-0]", "-./0", 8}, {"[=a=]]", "a", 6},
		{"]]", "]", 2}, {"]-a]", "]^_`a", 4}, {"]-]", "]-", 3}, {"-]", "-", 2}, {"--]", "-", 3}, {"-a]", "-a", 3}, {"---]", "-", 4}, {"--.-]", "-.", 5},
		{"a^]", "a^", 3}, {"a-a]", "a", 4}, {"a-c-e]", "abc-e", 6}, {"a-c--]", "abc-", 6}, {"+--]", "+,-", 4}, {"aaa]", "a", 4},
		{"\\]", "\\", 2}, {"\\a]", "\\a", 3}, {"\\\\n]", "\\\n", 4}, {"\\t]", "\\t", 3}, {"\\n-\r]", "\n\v\f\r", 5}, {"\b-\\n]", "\b\t\n", 5}, {"\\-^]", "\\]^", 4},
		{"[]", "[", 2}, {"[a]", "[a", 3}, {"[[]", "[", 3}, {"a[]", "a[", 3}, {"X-[]", "XYZ[", 4}, {"[-]]", "[-", 3}, {"[-a]", "[\\]^_`a", 4},
		{"[.].]]", "]", 6}, {"[...]]", ".", 6}, {"[===]]", "=", 6}, {"[=]=]]", "]", 6}, {"[.[.]]", "[", 6}, {"[.\n.]]", "\n", 6}, {"[.a.]-[.c.]]", "abc", 12}, {"a-[.c.]]", "abc", 8}, {"[.^.]]", "^", 6},
		{"[=a=]-c]", "a-c", 8}, {"[:digit:]-a]", "0123456789-a", 12}, {"[:digit:]--/]", "0123456789-./", 13}, {"[=a=]--/]", "a-./", 9},
		{"[:blank:][:blank:]]", " \t", 19}, {":]", ":", 2}, {"a:]]", "a:", 3}, {"[.a.].]]", "a.", 7}, {"\xff-\xff]", "\xff", 4}, {"\xfe-\xff]", "\xfe\xff", 4}, {"\x00-\x02]", "\x00\x01\x02", 4},
	} {
		set, n, why, at := sets.Bracket(c.s)
		if set != sets.Of([]byte(c.want)) || n != c.n || why != api.OK || at != 0 {
			t.Errorf("Bracket(%q) = %q, %d, %d, %d", c.s, sets.Bytes(set), n, why, at)
		}
		set, n, why, at = sets.Bracket("^" + c.s)
		if set != sets.Not(sets.Of([]byte(c.want))) || n != c.n+1 || why != api.OK || at != 0 {
			t.Errorf("Bracket(^%q) = all but %q, %d, %d, %d", c.s, sets.Bytes(sets.Not(set)), n, why, at)
		}
	}
	if set, n, why, _ := sets.Bracket("^^]"); set != sets.Not(sets.Of([]byte("^"))) || n != 3 || why != api.OK {
		t.Error("a second ^ is a byte")
	}
	if set, n, why, _ := sets.Bracket("\x00-\xff]"); set != sets.Not(api.Set{}) || n != 4 || why != api.OK {
		t.Error("all bytes", n, why)
	}
}

// 7.2: each fault, with its place.
func TestBracketFaults(t *testing.T) {
	for _, c := range []struct {
		s  string
		at int
	}{
		{"", 0}, {"^", 1}, {"a", 1}, {"]", 1}, {"^]", 2}, {"a-", 2}, {"[", 1}, {"\\", 1}, {"\\n", 2}, {"a-z", 3}, {"]a", 2}, {"[.a.]", 5}, {"[=a=]", 5}, {"[:digit:]", 9}, {"0-[", 3},
		{"c-a]", 2}, {"b-a", 2}, {"a-\\n]", 2}, {"a--]", 2}, {"a-[]", 2}, {"a-\\]", 2}, {"c-[.a.]]", 2}, {"[.c.]-a]", 6}, {"xyc-a]", 4}, {"^c-a]", 3}, {"]-[]", 2}, {"\\n-\t]", 3},
		{"[:word:]]", 0}, {"[::]]", 0}, {"[:]", 0}, {"[:]]", 0}, {"[:digit", 0}, {"[:digit:", 0}, {"[:digit]]", 0}, {"[:", 0}, {"x[:digit:x]:]]", 1}, {"[:Digit:]]", 0}, {"[: digit:]]", 0}, {"[:digit::]]", 0}, {"[:x:]:digit:]]", 0},
		{"x[.ab.]]", 1}, {"[..]]", 0}, {"[.]", 0}, {"[.", 0}, {"[.a", 0}, {"[.a.", 0}, {"[.a.x]", 0}, {"[.a]", 0}, {"[.a=]]", 0}, {"[.\\n.]]", 0},
		{"[==]]", 0}, {"[=ab=]]", 0}, {"[=", 0}, {"[=a", 0}, {"[=a=", 0}, {"[=a.]]", 0}, {"^[=]", 1},
		{"a-[:digit:]]", 2}, {"a-[=b=]]", 2}, {"a-[:", 2}, {"a-[.", 2}, {"a-[.bc.]]", 2}, {"a-[=", 2}, {"a-[:word:]]", 2}, {"\x00-[:digit:]]", 2}, {"\x00-[=a=]]", 2}, {"\x00-", 2}, {"\x00-[.", 2},
		{"c-a[:word:]]", 2}, {"[:word:]c-a]", 0}, {"ab[:word:", 2},
	} {
		set, n, why, at := sets.Bracket(c.s)
		if set != (api.Set{}) || n != 0 || why != api.ErrBracket || at != c.at {
			t.Errorf("Bracket(%q) = %q, %d, %d, %d; not at %d", c.s, sets.Bytes(set), n, why, at, c.at)
		}
	}
}

// The items as the words have them, by expressions of another kind: each is tried at the front of what is left.
var (
	class     = regexp.MustCompile(`(?s)^\[:(.*?):\]`)
	equal     = regexp.MustCompile(`(?s)^\[=(.)=\]`)
	dotted    = regexp.MustCompile(`(?s)^\[\.(.)\.\]`)
	newline   = regexp.MustCompile(`^\\n`)
	lone      = regexp.MustCompile(`(?s)^(?:[^\[\]]|\[(?:$|[^.=:]))`)
	loneFirst = regexp.MustCompile(`(?s)^(?:[^\[]|\[(?:$|[^.=:]))`)
)

// element is the byte of an element, and how long it is (0: there is none).
func element(s string, first bool) (byte, int) {
	alone := lone
	if first {
		alone = loneFirst
	}
	switch {
	case dotted.MatchString(s):
		return s[2], 5
	case newline.MatchString(s):
		return '\n', 2
	case alone.MatchString(s):
		return s[0], 1
	}
	return 0, 0
}

// expected is Bracket, item by item, of texts of ASCII bytes.
func expected(s string) (set api.Set, n int, why api.Errno, at int) {
	whole := len(s)
	not := strings.HasPrefix(s, "^")
	s = strings.TrimPrefix(s, "^")
	for first := true; first || !strings.HasPrefix(s, "]"); first = false {
		place := whole - len(s)
		if m := class.FindStringSubmatch(s); m != nil {
			c, ok := sets.Class(m[1])
			if !ok {
				return api.Set{}, 0, api.ErrBracket, place
			}
			set, s = sets.Or(set, c), s[len(m[0]):]
			continue
		}
		if m := equal.FindStringSubmatch(s); m != nil {
			set, s = sets.Or(set, sets.Of([]byte(m[1]))), s[len(m[0]):]
			continue
		}
		from, size := element(s, first)
		if size == 0 {
			return api.Set{}, 0, api.ErrBracket, place
		}
		to, long := from, size
		if behind := s[size:]; strings.HasPrefix(behind, "-") && !strings.HasPrefix(behind, "-]") {
			to, long = element(behind[1:], false)
			if long == 0 || to < from {
				return api.Set{}, 0, api.ErrBracket, place + size + 1
			}
			long += size + 1
		}
		set, s = sets.Or(set, where(func(c byte) bool { return c >= from && c <= to })), s[long:]
	}
	if not {
		set = sets.Not(set)
	}
	return set, whole - len(s) + 1, api.OK, 0
}

// texts hands out all texts of up to so many of some pieces.
func texts(pieces []string, most int, take func(string)) {
	var grow func(s string, left int)
	grow = func(s string, left int) {
		take(s)
		for _, p := range pieces {
			if left > 0 {
				grow(s+p, left-1)
			}
		}
	}
	grow("", most)
}

// 7.2, 7.7: all short texts of the bytes that mean something, and longer ones of pieces.
func TestBracketByItems(t *testing.T) {
	check := func(s string) {
		set, n, why, at := sets.Bracket(s)
		wantSet, wantN, wantWhy, wantAt := expected(s)
		if set != wantSet || n != wantN || why != wantWhy || at != wantAt {
			t.Fatalf("Bracket(%q) = %q, %d, %d, %d; not %q, %d, %d, %d", s, sets.Bytes(set), n, why, at, sets.Bytes(wantSet), wantN, wantWhy, wantAt)
		}
		if why != api.OK {
			return
		}
		for _, behind := range []string{"", "]", "-z]", ":]", "[:", "\xff"} {
			if again, m, why, _ := sets.Bracket(s[:n] + behind); again != set || m != n || why != api.OK {
				t.Fatalf("7.7: %q with %q behind it: %q, %d, %d", s[:n], behind, sets.Bytes(again), m, why)
			}
		}
	}
	texts(strings.Split("]^-[:.=\\na", ""), 5, check)
	texts([]string{"[:", ":]", "digit", "[.", ".]", "[=", "=]", "-", "]", "\\n", "a", "^", "[:alpha:]"}, 4, check)
}

// printed is Print by its words: runs told byte by byte.
func printed(s api.Set) string {
	all := sets.Count(s)
	in := modelOf(s)
	out := ""
	if all == 0 || all > 128 && all < 256 {
		out = "^"
		in = modelOf(sets.Not(s))
	}
	tell := func(c int) string {
		one := string([]byte{byte(c)})
		if strings.Contains("[]^-\\\n", one) {
			return "[." + one + ".]"
		}
		return one
	}
	for c := 0; c < 256; {
		last := c
		for last < 256 && in[last] {
			last++
		}
		switch last - c {
		case 0:
			last++
		case 1:
			out += tell(c)
		case 2:
			out += tell(c) + tell(c+1)
		default:
			out += tell(c) + "-" + tell(last-1)
		}
		c = last
	}
	return out + "]"
}

// 7.3, 7.5: the form of each set, and that it is read as it was.
func TestPrint(t *testing.T) {
	all := some()
	for from := range 256 {
		for _, to := range []int{from + 1, from + 2, from + 3, from + 127, from + 128} {
			all = append(all, sets.Range(byte(from), byte(min(to, 255))))
		}
	}
	for _, s := range all {
		for _, x := range []api.Set{s, sets.Not(s)} {
			p := sets.Print(x)
			if p != printed(x) {
				t.Fatalf("Print(%x) = %q, not %q", x, p, printed(x))
			}
			if back, n, why, at := sets.Bracket(p); back != x || n != len(p) || why != api.OK || at != 0 {
				t.Fatalf("7.5: %q is read as %x, %d, %d, %d", p, back, n, why, at)
			}
		}
	}
	for want, s := range map[string]api.Set{
		"a-c]": sets.Of([]byte("cab")), "ab]": sets.Of([]byte("ab")), "a]": sets.Of([]byte("a")), "^\x00-\xff]": {}, "\x00-\xff]": sets.Not(api.Set{}), "^a]": sets.Not(sets.Of([]byte("a"))), "[.-.][.].]]": sets.Of([]byte("]-")),
		"\x00-\x7f]": sets.Range(0, 127), "^\x81-\xff]": sets.Range(0, 128), "[.[.]-[.^.]]": sets.Range('[', '^'), "[.\n.]]": sets.Of([]byte("\n")), "\t[.\n.]]": sets.Of([]byte("\t\n")),
	} {
		if p := sets.Print(s); p != want {
			t.Errorf("Print = %q, not %q", p, want)
		}
	}
}

// P1, 7.2: any bytes; what is taken ends with its ], what is not has its place within the text.
func FuzzBracket(f *testing.F) {
	for _, s := range []string{"a-c]x", "^]-[.\xff.]]", "[:alpha:][=]=]]", "a-[:", "\\n-\\", "[.]"} {
		f.Add(s)
	}
	f.Fuzz(func(t *testing.T, s string) {
		set, n, why, at := sets.Bracket(s)
		if why == api.OK {
			if n < 2 || n > len(s) || s[n-1] != ']' || at != 0 {
				t.Errorf("%q: %d, %d", s, n, at)
			}
			if again, m, _, _ := sets.Bracket(s[:n]); again != set || m != n {
				t.Errorf("%q: %d, then %d", s, n, m)
			}
			return
		}
		if set != (api.Set{}) || n != 0 || why != api.ErrBracket || at < 0 || at > len(s) {
			t.Errorf("%q: %x, %d, %d, %d", s, set, n, why, at)
		}
		if _, _, why, _ := sets.Bracket(s[:at]); why != api.ErrBracket {
			t.Errorf("%q is one up to its fault", s)
		}
	})
}
