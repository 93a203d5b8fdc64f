package paths_test

import (
	"slices"
	"strings"
	"testing"

	"paddock/api"
	"paddock/paths"
)

// path has the names between blanks.
func path(s string) api.Path { return strings.Fields(s) }

// long is a right path whose own text has so many bytes (1 for the root, else at least 2).
func long(bytes int) api.Path {
	var p api.Path
	for bytes > 1 {
		n := min(bytes-1, api.MaxName)
		if bytes-1-n == 1 {
			n--
		}
		p = append(p, strings.Repeat("n", n))
		bytes -= n + 1
	}
	return p
}

// samples are right paths that have much in common.
func samples() []api.Path {
	var out []api.Path
	for _, s := range []string{"", "a", "b", "ab", "a b", "a a", "a b c", "b a", "...", "a ..b", "B", "a\xff", "a b a b"} {
		out = append(out, path(s))
	}
	return append(out, long(1000), long(api.MaxPath))
}

// wrongPaths are such as are not right.
func wrongPaths() []api.Path {
	return []api.Path{{""}, {"."}, {".."}, {"a", ".."}, {"a/b"}, {"a\x00"}, {"", "a"}, {strings.Repeat("n", api.MaxName+1)}, long(api.MaxPath + 1)}
}

// P2.1
func TestName(t *testing.T) {
	for _, s := range []string{"a", "...", ".a", "..a", "a.", " ", "\n", "\xff", "\\", "-", strings.Repeat("n", api.MaxName)} {
		if !paths.Name(s) {
			t.Errorf("Name(%q) = false", s)
		}
	}
	for _, s := range []string{"", ".", "..", "/", "a/", "/a", "a/b", "\x00", "a\x00", "\x00a", strings.Repeat("n", api.MaxName+1)} {
		if paths.Name(s) {
			t.Errorf("Name(%q) = true", s)
		}
	}
	for i := range 256 {
		if b := byte(i); paths.Name(string([]byte{'x', b})) != (b != '/' && b != 0) {
			t.Errorf("Name with the byte %#x", b)
		}
	}
}

// P2.1
func TestRight(t *testing.T) {
	for _, p := range append(samples(), nil, api.Path{}) {
		if !paths.Right(p) {
			t.Errorf("Right(%q) = false", p)
		}
	}
	for _, p := range wrongPaths() {
		if paths.Right(p) {
			t.Errorf("Right(%q) = true", p)
		}
	}
}

// P2.2
func TestNormal(t *testing.T) {
	for _, c := range []struct {
		from, s, want string
		folder        bool
	}{
		{"", "/a/./b//c/../d", "a b d", false},
		{"a b", "../c/", "a c", true},
		{"", "../..", "", true},
		{"a", "/", "", true},
		{"a", "//", "", true},
		{"", "...", "...", false},
		{"a b", "c", "a b c", false},
		{"a b", "/c", "c", false},
		{"a b", ".", "a b", true},
		{"a b", "..", "a", true},
		{"a b", "./", "a b", true},
		{"a b", "c/.", "a b c", true},
		{"a b", "c/..", "a b", true},
		{"a b", "../../../c", "c", false},
		{"a b", "/../c", "c", false},
		{"a b", "./c", "a b c", false},
		{"a", "..b/.c", "a ..b .c", false},
		{"a", " /\\", "a \\", false},
	} {
		want := path(c.want)
		if c.s == " /\\" {
			want = api.Path{"a", " ", "\\"}
		}
		p, folder, why := paths.Normal(path(c.from), c.s)
		if !slices.Equal(p, want) || folder != c.folder || why != api.OK {
			t.Errorf("Normal(%q, %q) = %q, %v, %d", c.from, c.s, p, folder, why)
		}
	}
}

// P2.2: each error, the limits at them and one past them, and which error comes first.
func TestNormalErrors(t *testing.T) {
	name := strings.Repeat("n", api.MaxName)
	tooLong := strings.Repeat("/", api.MaxPath+1)
	for _, c := range []struct {
		from api.Path
		s    string
		why  api.Errno
	}{
		{nil, "", api.ErrPath},
		{nil, "a\x00", api.ErrPath},
		{nil, "\x00/..", api.ErrPath},
		{api.Path{".."}, "a", api.ErrPath},
		{api.Path{".."}, "/a", api.ErrPath},
		{api.Path{".."}, tooLong, api.ErrPath},
		{nil, tooLong, api.ErrLong},
		{nil, "\x00" + tooLong, api.ErrLong},
		{nil, tooLong[1:], api.OK},
		{nil, name, api.OK},
		{nil, name + "n", api.ErrPath},
		{nil, name + "n/..", api.ErrPath},
		{nil, "a/" + name + "n", api.ErrPath},
		{long(1000), "n\x00", api.ErrPath},
		{long(1000), name + "n", api.ErrPath},
		{long(1000), strings.Repeat("n", 50), api.ErrLong},
		{long(1000), strings.Repeat("n", 23), api.OK},
		{long(1000), strings.Repeat("n", 24), api.ErrLong},
		{long(1000), "../" + strings.Repeat("n", 50), api.OK},
		{long(1000), strings.Repeat("n", 50) + "/..", api.OK},
		{long(1000), "/" + strings.Repeat("n", 50), api.OK},
		{long(api.MaxPath), ".", api.OK},
		{long(api.MaxPath), "n", api.ErrLong},
		{long(api.MaxPath), "n/", api.ErrLong},
		{long(api.MaxPath), "n/../..", api.OK},
		{nil, strings.Repeat("n/", api.MaxPath/2), api.OK},
		{nil, strings.Repeat("n/", api.MaxPath/2-1) + "nn", api.ErrLong}, // the / ahead makes it one more
		{path("a"), strings.Repeat("n/", api.MaxPath/2), api.ErrLong},
	} {
		p, folder, why := paths.Normal(c.from, c.s)
		if why != c.why || why != api.OK && (p != nil || folder) || !paths.Right(p) {
			t.Errorf("Normal(%.20q, %.20q of %d) = %.20q, %v, %d and not %d", c.from, c.s, len(c.s), p, folder, why, c.why)
		}
	}
	for _, from := range wrongPaths() {
		if p, folder, why := paths.Normal(from, "a/"); p != nil || folder || why != api.ErrPath {
			t.Errorf("Normal(%q, a/) = %q, %v, %d", from, p, folder, why)
		}
	}
}

// P2.3
func TestPrint(t *testing.T) {
	for s, want := range map[string]string{"": "/", "a": "/a", "a b": "/a/b", "... \\": "/.../\\"} {
		if got, why := paths.Print(path(s)); got != want || why != api.OK {
			t.Errorf("Print(%q) = %q, %d", s, got, why)
		}
	}
	if s, why := paths.Print(long(api.MaxPath)); len(s) != api.MaxPath || why != api.OK {
		t.Errorf("Print at the limit = %d bytes, %d", len(s), why)
	}
	for _, p := range wrongPaths() {
		if s, why := paths.Print(p); s != "" || why != api.ErrPath {
			t.Errorf("Print(%q) = %q, %d", p, s, why)
		}
	}
}

// P2.3
func TestRelative(t *testing.T) {
	for _, c := range []struct{ from, p, want string }{
		{"", "", "."},
		{"a", "a", "."},
		{"a b", "a c", "../c"},
		{"", "a b", "a/b"},
		{"a b", "", "../.."},
		{"a b", "a", ".."},
		{"a", "a b", "b"},
		{"a b", "b b", "../../b/b"},
		{"a", "ab", "../ab"},
	} {
		if s, why := paths.Relative(path(c.from), path(c.p)); s != c.want || why != api.OK {
			t.Errorf("Relative(%q, %q) = %q, %d", c.from, c.p, s, why)
		}
	}
	for _, p := range wrongPaths() {
		for _, c := range [][2]api.Path{{p, nil}, {nil, p}, {p, p}, {p, long(api.MaxPath)}} {
			if s, why := paths.Relative(c[0], c[1]); s != "" || why != api.ErrPath {
				t.Errorf("Relative(%q, %q) = %q, %d", c[0], c[1], s, why)
			}
		}
	}
	// .. twice with a / behind each, and 1018 bytes without the / ahead: MaxPath; with one more it is past it.
	if s, why := paths.Relative(path("x y"), long(1019)); len(s) != api.MaxPath || why != api.OK {
		t.Errorf("Relative at the limit: %d bytes, %d", len(s), why)
	}
	if s, why := paths.Relative(path("x y"), long(1020)); s != "" || why != api.ErrLong {
		t.Errorf("Relative one past the limit: %d bytes, %d", len(s), why)
	}
	deep := path(strings.Repeat("x ", api.MaxPath/2))
	if s, why := paths.Relative(deep, nil); s != "" || why != api.ErrLong {
		t.Errorf("Relative of a deep path: %d bytes, %d", len(s), why)
	}
}

// P2.4
func TestParent(t *testing.T) {
	for _, p := range []api.Path{nil, {}} {
		if up, last, ok := paths.Parent(p); len(up) != 0 || last != "" || ok {
			t.Errorf("Parent(root) = %q, %q, %v", up, last, ok)
		}
	}
	for _, p := range append(samples()[1:], wrongPaths()...) {
		up, last, ok := paths.Parent(p)
		if !ok || !slices.Equal(append(up, last), p) {
			t.Errorf("Parent(%q) = %q, %q, %v", p, up, last, ok)
		}
	}
}

// P2.4
func TestJoin(t *testing.T) {
	if p, why := paths.Join(path("a"), "b"); !slices.Equal(p, path("a b")) || why != api.OK {
		t.Errorf("Join(a, b) = %q, %d", p, why)
	}
	if p, why := paths.Join(nil, "b"); !slices.Equal(p, path("b")) || why != api.OK {
		t.Errorf("Join(root, b) = %q, %d", p, why)
	}
	for _, name := range []string{"", ".", "..", "/", "a/b", "\x00", strings.Repeat("n", api.MaxName+1)} {
		for _, p := range []api.Path{nil, path("a"), long(api.MaxPath)} {
			if p, why := paths.Join(p, name); p != nil || why != api.ErrPath {
				t.Errorf("Join(.., %q) = %q, %d", name, p, why)
			}
		}
	}
	for _, p := range wrongPaths() {
		if p, why := paths.Join(p, "a"); p != nil || why != api.ErrPath {
			t.Errorf("Join(wrong, a) = %q, %d", p, why)
		}
	}
	if p, why := paths.Join(long(1000), strings.Repeat("n", 23)); len(p) != len(long(1000))+1 || why != api.OK {
		t.Errorf("Join at the limit = %d", why)
	}
	if p, why := paths.Join(long(1000), strings.Repeat("n", 24)); p != nil || why != api.ErrLong {
		t.Errorf("Join one past the limit = %d", why)
	}
}

// P2.5
func TestWithinAndCompare(t *testing.T) {
	for _, c := range []struct {
		a, b    string
		within  bool
		compare int
	}{
		{"", "", true, 0},
		{"a", "", true, 1},
		{"", "a", false, -1},
		{"a", "a", true, 0},
		{"a b", "a", true, 1},
		{"a", "a b", false, -1},
		{"ab", "a", false, 1},
		{"a", "ab", false, -1},
		{"a", "B", false, 1},
		{"a c", "ab", false, -1},
		{"b", "a b", false, 1},
		{"a\xff", "a", false, 1},
		{"\xff", "a", false, 1},
		{"a b", "a a c", false, 1},
		{"a b c", "a b", true, 1},
		{"a c b", "a b", false, 1},
	} {
		if got := paths.Within(path(c.a), path(c.b)); got != c.within {
			t.Errorf("Within(%q, %q) = %v", c.a, c.b, got)
		}
		if got := paths.Compare(path(c.a), path(c.b)); got != c.compare {
			t.Errorf("Compare(%q, %q) = %d", c.a, c.b, got)
		}
	}
	if !paths.Within(api.Path{"..", "/"}, api.Path{".."}) || paths.Compare(api.Path{""}, nil) != 1 || paths.Compare(api.Path{"", "a"}, api.Path{"a"}) != -1 {
		t.Error("any lists of texts are paths here")
	}
}

// P2.5
func TestCoverAndInside(t *testing.T) {
	for _, c := range []struct{ l, want []api.Path }{
		{nil, nil},
		{[]api.Path{path("a b"), path("a"), path("c"), path("a")}, []api.Path{path("a"), path("c")}},
		{[]api.Path{nil, path("a")}, []api.Path{nil}},
		{[]api.Path{{}, nil, {}}, []api.Path{nil}},
		{[]api.Path{path("b"), path("a c"), path("a b"), path("ab")}, []api.Path{path("a b"), path("a c"), path("ab"), path("b")}},
		{[]api.Path{path("a.b"), path("a b"), path("a")}, []api.Path{path("a"), path("a.b")}},
		{[]api.Path{{"..", "/"}, {".."}}, []api.Path{{".."}}},
	} {
		got := paths.Cover(c.l)
		if !slices.EqualFunc(got, c.want, slices.Equal[api.Path]) {
			t.Errorf("Cover(%q) = %q", c.l, got)
		}
	}
	if paths.Inside(nil, nil) || paths.Inside([]api.Path{}, path("a")) {
		t.Error("nothing lies inside of none")
	}
	l := []api.Path{path("b"), path("a b")}
	for s, want := range map[string]bool{"": false, "a": false, "a b": true, "a b c": true, "b c": true, "a c": false, "bb": false} {
		if paths.Inside(l, path(s)) != want {
			t.Errorf("Inside(%q, %q) is not %v", l, s, want)
		}
	}
}
