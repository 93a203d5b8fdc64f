package paths_test

import (
	"slices"
	"strings"
	"testing"

	"paddock/api"
	"paddock/paths"
)

// texts are put together of parts with /s between, from one to so many.
func texts(upto int) []string {
	var out []string
	ahead := []string{""}
	for range upto {
		var now []string
		for _, s := range ahead {
			for _, part := range []string{"", ".", "..", "a", "b", "..."} {
				out = append(out, s+part)
				now = append(now, s+part+"/")
			}
		}
		ahead = now
	}
	return out
}

// leads is where a text leads, said with lists of parts and no more.
func leads(from api.Path, s string) (api.Path, bool) {
	at := slices.Clone(from)
	if strings.HasPrefix(s, "/") {
		at = nil
	}
	var last string
	for _, last = range strings.Split(s, "/") {
		switch last {
		case "", ".":
		case "..":
			at = at[:max(0, len(at)-1)]
		default:
			at = append(at, last)
		}
	}
	return at, last == "" || last == "." || last == ".."
}

// P2.2, P2.7
func TestWhereTextsLead(t *testing.T) {
	for _, s := range texts(4) {
		if s == "" {
			continue
		}
		for _, from := range []api.Path{nil, path("a"), path("a b"), path("x y z")} {
			p, folder, why := paths.Normal(from, s)
			want, asks := leads(from, s)
			if !slices.Equal(p, want) || folder != asks || why != api.OK || !paths.Right(p) {
				t.Fatalf("Normal(%q, %q) = %q, %v, %d", from, s, p, folder, why)
			}
			if root, _, _ := paths.Normal(nil, s); s[0] == '/' && !slices.Equal(p, root) {
				t.Fatalf("%q leads from %q to %q, from the root to %q", s, from, p, root)
			}
		}
	}
}

// P2.7, P2.9
func TestThere(t *testing.T) {
	for _, from := range samples() {
		for _, p := range samples() {
			s, why := paths.Print(p)
			if back, _, on := paths.Normal(from, s); !slices.Equal(back, p) || why != api.OK || on != api.OK {
				t.Errorf("Print(%q) leads from %q to %q, %d", p, from, back, on)
			}
			s, why = paths.Relative(from, p)
			if why == api.ErrLong {
				continue
			}
			if back, _, on := paths.Normal(from, s); !slices.Equal(back, p) || why != api.OK || on != api.OK {
				t.Errorf("Relative(%q, %q) = %q leads to %q, %d", from, p, s, back, on)
			}
		}
	}
}

// P2.8
func TestOneBehindTheOther(t *testing.T) {
	all := texts(3)
	for _, s := range all {
		for _, u := range all {
			if s == "" || u == "" || u[0] == '/' {
				continue
			}
			from := path("a x")
			half, _, _ := paths.Normal(from, s)
			want, folder, _ := paths.Normal(half, u)
			p, asks, why := paths.Normal(from, s+"/"+u)
			if !slices.Equal(p, want) || asks != folder || why != api.OK {
				t.Fatalf("%q and %q behind it: %q, %v, %d", s, u, p, asks, why)
			}
		}
	}
}

// subsets are all lists of some of the first ones of l, forwards and backwards.
func subsets(l []api.Path) [][]api.Path {
	var out [][]api.Path
	for bits := range 1 << len(l) {
		var some []api.Path
		for i, p := range l {
			if bits>>i&1 == 1 {
				some = append(some, p)
			}
		}
		back := slices.Clone(some)
		slices.Reverse(back)
		out = append(out, some, append(back, some...))
	}
	return out
}

// P2.10, P3
func TestCoverCovers(t *testing.T) {
	same := func(a, b []api.Path) bool { return slices.EqualFunc(a, b, slices.Equal[api.Path]) }
	all := append(samples()[1:9:9], api.Path{".."}, nil)
	for _, l := range subsets(all) {
		cover := paths.Cover(l)
		if !same(paths.Cover(cover), cover) {
			t.Fatalf("Cover(Cover(%q)) = %q", l, paths.Cover(cover))
		}
		for i, p := range cover {
			if i > 0 && paths.Compare(cover[i-1], p) != -1 {
				t.Fatalf("Cover(%q) = %q does not rise", l, cover)
			}
			if paths.Inside(slices.Delete(slices.Clone(cover), i, i+1), p) || !slices.ContainsFunc(l, func(q api.Path) bool { return slices.Equal(p, q) }) {
				t.Fatalf("Cover(%q) = %q", l, cover)
			}
		}
		for _, p := range append(samples(), wrongPaths()...) {
			if paths.Inside(cover, p) != paths.Inside(l, p) {
				t.Fatalf("%q inside of %q and of its cover", p, l)
			}
		}
	}
}

// P2.11
func TestBelow(t *testing.T) {
	all := append(samples(), wrongPaths()...)
	for _, p := range all {
		for _, q := range all {
			if paths.Within(p, q) && paths.Within(q, p) != slices.Equal(p, q) {
				t.Errorf("%q and %q lie within one another", p, q)
			}
			if c := paths.Compare(p, q); c != -paths.Compare(q, p) || (c == 0) != slices.Equal(p, q) {
				t.Errorf("Compare(%q, %q) = %d", p, q, c)
			}
			for _, r := range all {
				if paths.Within(p, q) && paths.Within(q, r) && !paths.Within(p, r) {
					t.Errorf("%q lies within %q, that within %q", p, q, r)
				}
			}
		}
		if up, _, ok := paths.Parent(p); ok && (!paths.Within(p, up) || paths.Within(up, p)) {
			t.Errorf("%q and its parent", p)
		}
	}
}

// P2.6
func TestNewMemory(t *testing.T) {
	room := append(make(api.Path, 0, 8), "a", "b", "c")
	full := room[:8]
	untouched := slices.Clone(full)
	spoil := func(name string, p api.Path) {
		for i := range p[:cap(p)] {
			p[:cap(p)][i] = "spoilt"
		}
		if !slices.Equal(full, untouched) {
			t.Errorf("%s shares memory: %q", name, full)
			copy(full, untouched)
		}
	}
	for _, s := range []string{"d", "..", "../d", ".", "d/e/f"} {
		p, _, _ := paths.Normal(room, s)
		spoil("Normal", p)
		p, _, _ = paths.Normal(room[:2], s)
		spoil("Normal", p)
	}
	p, _, _ := paths.Parent(room)
	spoil("Parent", p)
	p, _ = paths.Join(room[:2], "d")
	spoil("Join", p)

	l := append(make([]api.Path, 0, 4), path("b"), room, room, room[:2])[:3]
	cover := paths.Cover(l)
	if len(cover) != 2 || !slices.Equal(l[0], path("b")) || !slices.Equal(l[1], path("a b c")) || !slices.Equal(l[:4][3], path("a b")) {
		t.Fatalf("Cover changes what it is given: %q, %q", l, cover)
	}
	for i := range cover {
		spoil("Cover", cover[i])
	}
	if !slices.Equal(l[0], path("b")) {
		t.Error("Cover shares memory")
	}
	twice := paths.Cover([]api.Path{room[:2], {"a", "c"}, {"b"}})
	twice[0] = append(twice[0], "x", "y")
	if !slices.Equal(twice[1], path("a c")) || !slices.Equal(twice[2], path("b")) || !slices.Equal(full, untouched) {
		t.Errorf("two lists of Cover share memory: %q", twice)
	}
}

// P1: hand-made paths of any kind.
func TestAnyArguments(t *testing.T) {
	all := append(append(samples(), wrongPaths()...), nil, api.Path{}, make(api.Path, 3000))
	for _, p := range all {
		paths.Right(p)
		paths.Print(p)
		paths.Parent(p)
		paths.Cover(all)
		paths.Inside(all, p)
		for _, q := range all {
			paths.Relative(p, q)
			paths.Within(p, q)
			paths.Compare(p, q)
		}
		for _, s := range []string{"", "/", "\x00", "..", "\xff/", strings.Repeat("../", 2000)} {
			paths.Name(s)
			paths.Normal(p, s)
			paths.Join(p, s)
		}
	}
}
