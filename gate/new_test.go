package gate_test

import (
	"slices"
	"strconv"
	"strings"
	"testing"

	"paddock/api"
	"paddock/gate"
	"paddock/wood"
)

// many are so many paths.
func many(n int) []api.Path {
	var out []api.Path
	for i := range n {
		out = append(out, api.Path{"m" + strconv.Itoa(i)})
	}
	return out
}

// P6.1: each error, at its edges, and which one comes first.
func TestNew(t *testing.T) {
	long := strings.Repeat("n", api.MaxName)
	wrong, link, past := []api.Path{{"a"}, {".."}}, here("a c"), many(api.MaxFiles+1)
	for _, c := range []struct {
		read, write []api.Path
		why         api.Errno
	}{
		{nil, nil, 0}, {here("/"), here("/"), 0}, {here("a"), nil, 0}, {nil, here("a b"), 0}, {here("s"), here("z z z"), 0}, {here("a", "a", "a b"), here("s", "s"), 0},
		{many(api.MaxFiles), many(api.MaxFiles), 0}, {past, nil, api.ErrMany}, {nil, past, api.ErrMany}, {slices.Repeat(here("a"), api.MaxFiles), nil, 0}, {slices.Repeat(here("a"), api.MaxFiles+1), nil, api.ErrMany},
		{wrong, nil, api.ErrPath}, {nil, wrong, api.ErrPath}, {[]api.Path{{""}}, nil, api.ErrPath}, {nil, []api.Path{{"a/b"}}, api.ErrPath}, {[]api.Path{{"a", "."}}, nil, api.ErrPath}, {[]api.Path{{"a\x00"}}, nil, api.ErrPath}, {[]api.Path{{long}}, []api.Path{{long, long, long, long}}, 0}, {[]api.Path{{long + "n"}}, nil, api.ErrPath}, {nil, []api.Path{{long, long, long, long[1:], "n"}}, api.ErrPath},
		// A wrong path that lies within another one is wrong still.
		{[]api.Path{{}, {".."}}, nil, api.ErrPath}, {[]api.Path{{"a"}, {"a", ""}}, nil, api.ErrPath},
		{link, nil, api.ErrLink}, {nil, link, api.ErrLink}, {here("a c z"), nil, api.ErrLink}, {nil, here("s", "a c b"), api.ErrLink}, {here("a c", "s"), here("a"), api.ErrLink}, {here("a"), here("a c"), api.ErrLink},
		// A link that lies below a prefix does not matter, a prefix within another one neither.
		{here("a", "a c"), nil, 0}, {here("a c b", "a"), here("/", "a c"), 0}, {here("a cc", "ac"), here("c"), 0},
		{past, wrong, api.ErrMany}, {wrong, past, api.ErrMany}, {link, past, api.ErrMany}, {link, wrong, api.ErrPath}, {wrong, link, api.ErrPath},
	} {
		f := files(t, tree())
		g, why := gate.New(f, c.read, c.write)
		if why != c.why || (g == nil) != (why != api.OK) || f.Calls() != 0 {
			t.Errorf("New(%.40q, %.40q) = %v, %d, with %d calls", c.read, c.write, g, why, f.Calls())
		}
		if g, why := gate.New(nil, c.read, c.write); g != nil || why != api.ErrNil {
			t.Errorf("New of no file system = %v, %d", g, why)
		}
	}
}

// P6.1: links at all places of a prefix, among prefixes that stand close to it in order.
func TestPrefixesOverLinks(t *testing.T) {
	beside := here("a!", "a d e", "a d l!", "a d t", "w", "k")
	for _, c := range []struct {
		p    string
		over bool
	}{
		{"b", true}, {"b z", true}, {"b!", false}, {"a", false}, {"a d", false}, {"a k", true}, {"a k!", false}, {"a d l", true}, {"a d l l l", true}, {"a d l!", false}, {"a d e g", true}, {"a d e g g", true}, {"a d e f", false}, {"a d e", false}, {"a t z", false}, {"z b", false}, {"w in b", false}, {"/", false},
	} {
		for _, l := range [][]api.Path{here(c.p), append(here(c.p), beside[:1]...), append(here(c.p, "z"), beside[1:]...)} {
			// Beside one that holds it, it does not count.
			covered := slices.ContainsFunc(l, func(p api.Path) bool {
				own := wood.Path(c.p)
				return len(p) > 0 && len(p) < len(own) && slices.Equal(p, own[:len(p)])
			})
			want := api.OK
			if c.over && !covered {
				want = api.ErrLink
			}
			for _, both := range [][2][]api.Path{{l, nil}, {nil, l}, {l, l}, {beside, l}, {l, beside}} {
				if g, why := gate.New(files(t, deep()), both[0], both[1]); why != want || (g == nil) != (why != api.OK) {
					t.Errorf("New(%q) = %d, not %d", both, why, want)
				}
			}
		}
	}
}

// P6.1: the tree counts as it is when the gate is made.
func TestTreeAsItIs(t *testing.T) {
	f := files(t, tree())
	if _, why := gate.New(f, here("a c"), nil); why != api.ErrLink {
		t.Errorf("New = %d", why)
	}
	f.Rename(wood.Path("a c"), wood.Path("l"))
	if _, why := gate.New(f, here("a c"), nil); why != api.OK {
		t.Errorf("New without the link = %d", why)
	}
	if _, why := gate.New(f, nil, here("l b")); why != api.ErrLink {
		t.Errorf("New where the link is = %d", why)
	}
}
