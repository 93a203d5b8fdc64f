package lines_test

import (
	"fmt"
	"regexp"
	"strings"
	"testing"

	"paddock/api"
	"paddock/lines"
)

// told is a byte as the document tells it, said once more.
func told(b byte) string {
	if at := strings.IndexByte("\\\a\b\f\n\r\t\v", b); at >= 0 {
		return "\\" + "\\abfnrtv"[at:at+1]
	}
	if b < 0x20 || b >= 0x7f {
		return fmt.Sprintf("\\%03o", b)
	}
	return string(rune(b))
}

// 1.3
func TestListEachByte(t *testing.T) {
	for i := range 256 {
		s, why := lines.List(string([]byte{byte(i)}), 0)
		if s != told(byte(i))+"$\n" || why != api.OK {
			t.Errorf("List of the byte %#x = %q, %d", i, s, why)
		}
	}
}

// 1.3
func TestListRows(t *testing.T) {
	for _, c := range []struct {
		s     string
		width int
		want  string
	}{
		{"", 0, "$\n"},
		{"", 1, "$\n"},
		{"", 2, "$\n"},
		{"a\tb\x00\n", 0, "a\\tb\\000\\n$\n"},
		{"abcdef", 4, "abc\\\ndef$\n"},
		{"abc", 4, "abc$\n"},
		{"abcd", 4, "abc\\\nd$\n"},
		{"\x01\x02", 6, "\\001\\\n\\002$\n"},
		{"\x01\x02", 8, "\\001\\\n\\002$\n"},
		{"\x01\x02", 9, "\\001\\002$\n"},
		{"a\x01b", 3, "a\\\n\\001\\\nb$\n"},
		{"\x01\x02", 2, "\\001\\\n\\002$\n"},
		{"\x01a", 5, "\\001\\\na$\n"},
		{"a\\b", 3, "a\\\n\\\\\\\nb$\n"},
		{"ab", 1, "ab$\n"},
		{"ab", 2, "a\\\nb$\n"},
		{"$$", 2, "$\\\n$$\n"},
		{"ab", 1<<63 - 1, "ab$\n"},
		{strings.Repeat("a", 100), 0, strings.Repeat("a", 100) + "$\n"},
		{strings.Repeat("a", 100), 70, strings.Repeat("a", 69) + "\\\n" + strings.Repeat("a", 31) + "$\n"},
	} {
		if s, why := lines.List(c.s, c.width); s != c.want || why != api.OK {
			t.Errorf("List(%q, %d) = %q, %d", c.s, c.width, s, why)
		}
	}
	for _, width := range []int{-1, -70, -1 << 63} {
		if s, why := lines.List("a", width); s != "" || why != api.ErrRange {
			t.Errorf("List(a, %d) = %q, %d", width, s, why)
		}
	}
}

// 1.8
func TestUnlistOfList(t *testing.T) {
	all := append(texts("a$\\\n\x01\"", 4), allBytes(), strings.Repeat(allBytes(), 3))
	for _, s := range all {
		for _, width := range []int{0, 1, 2, 3, 4, 5, 6, 7, 10, 70, 1 << 40} {
			l, _ := lines.List(s, width)
			if back, why, at := lines.Unlist(l); back != s || why != api.OK || at != 0 {
				t.Fatalf("Unlist(List(%q, %d)) = %q, %d, %d", s, width, back, why, at)
			}
			for _, row := range lines.Split(l) {
				if width > 4 && len(row.Text) > width {
					t.Fatalf("List(%q, %d) has the row %q", s, width, row.Text)
				}
			}
		}
	}
}

const (
	octal   = `\\(?:00[0-6]|01[67]|0[23][0-7]|177|[23][0-7][0-7])`
	inList  = `(?:[ -\[\]-~]|\\[\\abfnrtv]|` + octal + `)`
	inQuote = `(?:[ !#-\[\]-~]|\\["\\abfnrtv]|` + octal + `)`
)

// ends are what may be behind a front of a told text to make it whole.
var ends = []string{"", "\n", "$\n", "a$\n", "\\$\n", "6$\n", "7$\n", "06$\n", "77$\n", "\"", "\\\"", "6\"", "7\"", "06\"", "77\""}

// goesOn tells whether a text is a front of one that is whole; what was found is kept, as fronts come again and again.
func goesOn(is *regexp.Regexp, known map[string]bool, s string) bool {
	yes, ok := known[s]
	for i := 0; !ok && !yes && i < len(ends); i++ {
		yes = is.MatchString(s + ends[i])
	}
	known[s] = yes
	return yes
}

// faultAt is the first byte with which none goes on.
func faultAt(is *regexp.Regexp, known map[string]bool, s string) int {
	for i := range len(s) {
		if !goesOn(is, known, s[:i+1]) {
			return i
		}
	}
	return len(s)
}

// 1.4
func TestUnlistPlaces(t *testing.T) {
	is := regexp.MustCompile(`\A(?:` + inList + `(?:(?:\\\n)?` + inList + `)*)?\$\n\z`)
	known := map[string]bool{}
	all := texts("a$\\\n0167\"", 5)
	for i := range 256 {
		all = append(all, string([]byte{byte(i), '$', '\n'}), string([]byte{'\\', byte(i), '$', '\n'}), fmt.Sprintf("\\%03o$\n", i), fmt.Sprintf("\\%03o$\n", i+256))
	}
	for _, s := range all {
		back, why, at := lines.Unlist(s)
		if is.MatchString(s) {
			if why != api.OK || at != 0 {
				t.Fatalf("Unlist(%q) = %q, %d, %d", s, back, why, at)
			}
			plain := strings.ReplaceAll(s[:len(s)-2], "\\\n", "")
			if l, _ := lines.List(back, 0); l != plain+"$\n" {
				t.Fatalf("Unlist(%q) = %q", s, back)
			}
		} else if want := faultAt(is, known, s); back != "" || why != api.ErrTold || at != want {
			t.Fatalf("Unlist(%q) = %q, %d, %d and not %d", s, back, why, at, want)
		}
	}
}

// 1.4
func TestUnlist(t *testing.T) {
	for s, want := range map[string]string{"$\n": "", "a$$\n": "a$", "$$\n": "$", "a\\\n$$\n": "a$", "a\\\nb$\n": "ab", "a\\\\\\\nb$\n": "a\\b", "\\a\\b\\f\\n\\r\\t\\v\\\\$\n": "\a\b\f\n\r\t\v\\", "\\000\\177\\200\\377$\n": "\x00\x7f\x80\xff"} {
		if back, why, at := lines.Unlist(s); back != want || why != api.OK || at != 0 {
			t.Errorf("Unlist(%q) = %q, %d, %d", s, back, why, at)
		}
	}
	for s, want := range map[string]int{"": 0, "a": 1, "a$": 2, "\n": 0, "a\n": 1, "$\nx": 2, "$\n$\n": 2, "\\q$\n": 1, "\\101$\n": 2, "\\\na$\n": 1, "a\\\n$\n": 4, "a\\\n": 3, "a\\\n\\\nb$\n": 4, "\\": 1, "\\0": 2, "\\00": 3, "\\007$\n": 3, "\\012$\n": 3, "\\015$\n": 3, "\\040$\n": 2, "\\176$\n": 3, "\\400$\n": 1, "\\\"$\n": 1, "\x7f$\n": 0, "a\t$\n": 1, "\\008$\n": 3} {
		if back, why, at := lines.Unlist(s); back != "" || why != api.ErrTold || at != want {
			t.Errorf("Unlist(%q) = %q, %d, %d and not %d", s, back, why, at, want)
		}
	}
}

// 1.5
func TestQuote(t *testing.T) {
	for i := range 256 {
		want := told(byte(i))
		if byte(i) == '"' {
			want = "\\\""
		}
		if s := lines.Quote(string([]byte{byte(i)})); s != "\""+want+"\"" {
			t.Errorf("Quote of the byte %#x = %q", i, s)
		}
	}
	for s, want := range map[string]string{"": "\"\"", "a\"\n": "\"a\\\"\\n\"", "\\": "\"\\\\\"", "$": "\"$\""} {
		if q := lines.Quote(s); q != want {
			t.Errorf("Quote(%q) = %q", s, q)
		}
	}
}

// 1.9
func TestUnquoteOfQuote(t *testing.T) {
	for _, s := range append(texts("a$\\\n\x01\"", 4), allBytes()) {
		q := lines.Quote(s)
		for _, behind := range []string{"", "rest", "\"", "\n", "\\", "\xff"} {
			back, n, why, at := lines.Unquote(q + behind)
			if back != s || n != len(q) || why != api.OK || at != 0 {
				t.Fatalf("Unquote(%q) = %q, %d, %d, %d", q+behind, back, n, why, at)
			}
		}
	}
}

// 1.5
func TestUnquotePlaces(t *testing.T) {
	is := regexp.MustCompile(`\A"` + inQuote + `*"\z`)
	front := regexp.MustCompile(`\A"` + inQuote + `*"`)
	known := map[string]bool{}
	all := texts("a\"\\\n0167", 5)
	for i := range 256 {
		all = append(all, string([]byte{'"', byte(i), '"'}), string([]byte{'"', '\\', byte(i), '"'}), fmt.Sprintf("\"\\%03o\"", i), fmt.Sprintf("\"\\%03o\"", i+256))
	}
	for _, s := range all {
		back, n, why, at := lines.Unquote(s)
		if q := front.FindString(s); q != "" {
			if n != len(q) || why != api.OK || at != 0 || lines.Quote(back) != q {
				t.Fatalf("Unquote(%q) = %q, %d, %d, %d", s, back, n, why, at)
			}
		} else if want := faultAt(is, known, s); back != "" || n != 0 || why != api.ErrTold || at != want {
			t.Fatalf("Unquote(%q) = %q, %d, %d, %d and not %d", s, back, n, why, at, want)
		}
	}
	for s, want := range map[string]int{"": 0, "a": 0, "\"a": 2, "\"": 1, "\"\n\"": 1, "\"\\": 2, "\"\\$\"": 2, "\"\\00": 4, "\"\\042\"": 3, "\"a\\\n\"": 3} {
		if back, n, why, at := lines.Unquote(s); back != "" || n != 0 || why != api.ErrTold || at != want {
			t.Errorf("Unquote(%q) = %q, %d, %d, %d and not %d", s, back, n, why, at, want)
		}
	}
}
