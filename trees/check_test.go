package trees_test

import (
	"slices"
	"strings"
	"testing"

	"paddock/api"
	"paddock/trees"
	"paddock/wood"
)

// grove is the tree T of the chapter's examples.
func grove() api.File {
	return wood.Root(wood.Dir("a", wood.Text("b", "x\n")), wood.Link("c", "/a/b"))
}

// deep is a tree with folders n in one another, so that a path of so many names ends at the file f.
func deep(names int, f api.File) api.File {
	for range names - 1 {
		f = wood.Dir("n", f)
	}
	return wood.Root(f)
}

// deepPath is where the file f of deep stands.
func deepPath(names int, name string) api.Path {
	return append(slices.Repeat(api.Path{"n"}, names-1), name)
}

// small are right trees, all that can be made of a few names, kinds and texts, two folders deep.
func small() []api.File {
	leaves := func(name string) []api.File {
		return []api.File{wood.Text(name, ""), wood.Text(name, "x"), wood.Link(name, "x")}
	}
	folders := func(name string, inner [][]api.File) []api.File {
		var out []api.File
		for _, files := range inner {
			out = append(out, wood.Dir(name, files...))
		}
		return out
	}
	// lists are none, one or both of the files with the two names.
	lists := func(first, second []api.File) [][]api.File {
		out := [][]api.File{nil}
		for _, f := range append(slices.Clone(first), second...) {
			out = append(out, []api.File{f})
		}
		for _, f := range first {
			for _, g := range second {
				out = append(out, []api.File{f, g})
			}
		}
		return out
	}
	low := lists([]api.File{wood.Text("a", "x"), wood.Dir("a"), wood.Dir("a", wood.Text("c", "y"))}, []api.File{wood.Text("b", ""), wood.Link("b", "x")})
	var out []api.File
	for _, files := range lists(append(leaves("a"), folders("a", low)...), append(leaves("a.b"), folders("a.b", low[:5])...)) {
		out = append(out, wood.Root(files...))
	}
	return out
}

// somePaths are paths at, beside and below the files of small.
func somePaths() []api.Path {
	var out []api.Path
	for _, s := range []string{"a", "b", "a.b", "a a", "a b", "a.b a", "a.b b", "z", "a z", "a a c", "a a z", "a b c", "z z", "a a c c", ".. a", "a /", "a b c d e"} {
		out = append(out, wood.Path(s))
	}
	return append(out, api.Path{""}, api.Path{"a", ""})
}

// 3.1: the tree itself is the fault.
func TestCheckRoot(t *testing.T) {
	for _, f := range []api.File{{}, wood.Text("", ""), wood.Link("", "a"), wood.Dir("a"), {Kind: api.FileDir, Data: "x"}, {Kind: api.FileCount}, {Kind: 255}, {Name: "a"}, {Kind: api.FileText, Files: []api.File{wood.Text("a", "")}}} {
		if why, p := trees.Check(f); why != api.ErrTree || len(p) != 0 {
			t.Errorf("Check(%v) = %d, %q", f, why, p)
		}
	}
}

// 3.1: each thing that may be wrong with a file, and the edges at which it is not.
func TestCheckFile(t *testing.T) {
	name := strings.Repeat("n", api.MaxName)
	data := strings.Repeat("d", api.MaxPath)
	some := []api.File{wood.Text("a", "")}
	for _, c := range []struct {
		f  api.File
		ok bool
	}{
		{wood.Text("a", ""), true}, {wood.Text("a", "\x00\n/"), true}, {wood.Text("a", data+"d"), true},
		{wood.Link("a", "x"), true}, {wood.Link("a", "../\n"), true}, {wood.Link("a", data), true},
		{wood.Dir("a"), true}, {wood.Dir("a", some...), true},
		{wood.Text(name, ""), true}, {wood.Text("...", ""), true}, {wood.Text("\xff", ""), true}, {wood.Text("\x01", ""), true},
		{wood.Text(name+"n", ""), false}, {wood.Text("", ""), false}, {wood.Text(".", ""), false}, {wood.Text("..", ""), false},
		{wood.Text("a/b", ""), false}, {wood.Text("/", ""), false}, {wood.Text("a\x00", ""), false}, {wood.Dir(".."), false}, {wood.Link("..", "x"), false},
		{wood.Link("a", ""), false}, {wood.Link("a", data+"d"), false}, {wood.Link("a", "\x00"), false}, {wood.Link("a", "x\x00y"), false},
		{api.File{Name: "a", Kind: api.FileDir, Data: "x"}, false},
		{api.File{Name: "a", Kind: api.FileDir, Data: "x", Files: some}, false},
		{api.File{Name: "a", Kind: api.FileText, Files: some}, false},
		{api.File{Name: "a", Kind: api.FileLink, Data: "x", Files: some}, false},
		{api.File{Name: "a", Kind: api.FileText, Files: []api.File{}}, true},
		{api.File{Name: "a", Kind: api.FileNone}, false}, {api.File{Name: "a", Kind: api.FileCount}, false}, {api.File{Name: "a", Kind: 255, Data: "x"}, false},
	} {
		for _, where := range []struct {
			t  api.File
			at api.Path
		}{
			{wood.Root(c.f), api.Path{c.f.Name}},
			{wood.Root(wood.Dir("a", wood.Dir("b", c.f)), wood.Text("z", "")), api.Path{"a", "b", c.f.Name}},
			// The later fault is not told.
			{wood.Root(wood.Dir("a", wood.Dir("b", c.f)), wood.Text("z", ""), wood.Text("z", "")), api.Path{"a", "b", c.f.Name}},
		} {
			wrong := len(where.t.Files) == 3
			why, p := trees.Check(where.t)
			switch {
			case c.ok && !wrong && (why != api.OK || p != nil):
				t.Errorf("Check with the right %.40q: %d, %.40q", c.f.Name, why, p)
			case c.ok && wrong && (why != api.ErrTree || !slices.Equal(p, wood.Path("z"))):
				t.Errorf("Check with %.40q and two files z: %d, %.40q", c.f.Name, why, p)
			case !c.ok && (why != api.ErrTree || !slices.Equal(p, where.at)):
				t.Errorf("Check with the wrong %.40q %d %.40q: %d, %.40q", c.f.Name, c.f.Kind, c.f.Data, why, p)
			}
		}
	}
}

// 3.1: names rise, byte by byte, in each folder by itself.
func TestCheckNamesRise(t *testing.T) {
	for _, c := range []struct{ names, fault string }{
		{"a b", ""}, {"a ab b", ""}, {"B a", ""}, {"a- a. a0", ""}, {"a \xff", ""}, {"... a", ""},
		{"a a", "a"}, {"b a", "a"}, {"a b a", "a"}, {"ab a", "a"}, {"a B", "B"}, {"\xff a", "a"}, {"b c a d", "a"},
	} {
		var files []api.File
		for i, name := range wood.Path(c.names) {
			files = append(files, []api.File{wood.Dir(name, wood.Text("a", "")), wood.Text(name, "x"), wood.Link(name, "y")}[i%3])
		}
		want := api.OK
		if c.fault != "" {
			want = api.ErrTree
		}
		if why, p := trees.Check(wood.Root(files...)); why != want || !slices.Equal(p, wood.Path(c.fault)) {
			t.Errorf("Check with %q: %d, %q", c.names, why, p)
		}
		if why, p := trees.Check(wood.Root(wood.Dir("z", files...))); why != want || c.fault != "" && !slices.Equal(p, wood.Path("z "+c.fault)) {
			t.Errorf("Check with z and in it %q: %d, %q", c.names, why, p)
		}
	}
}

// 3.1: a folder stands ahead of what is in it, and that ahead of its neighbour.
func TestCheckFirstFault(t *testing.T) {
	bad := wood.Text("", "")
	for _, c := range []struct {
		t  api.File
		at api.Path
	}{
		{wood.Root(wood.Dir("b", bad), wood.Dir("a", bad)), api.Path{"b", ""}},
		{wood.Root(wood.Dir("b"), wood.Dir("a", bad)), wood.Path("a")},
		{wood.Root(wood.Dir("a", wood.Dir("b", bad), bad), bad), api.Path{"a", "b", ""}},
		{wood.Root(wood.Dir("a", bad, wood.Dir("b", bad))), api.Path{"a", ""}},
		{wood.Root(wood.Text("a", ""), wood.Text("a", ""), bad), wood.Path("a")},
		{wood.Root(api.File{Name: "a", Kind: api.FileText, Files: []api.File{bad}}), wood.Path("a")},
		{wood.Root(api.File{Name: "a", Files: []api.File{wood.Text("a", "")}}), wood.Path("a")},
		{api.File{Name: "a", Kind: api.FileDir, Files: []api.File{bad}}, nil},
	} {
		if why, p := trees.Check(c.t); why != api.ErrTree || !slices.Equal(p, c.at) {
			t.Errorf("Check(%v) = %d, %q", c.t, why, p)
		}
	}
}

// 3.1: paths of MaxNest names, and of one more.
func TestCheckNest(t *testing.T) {
	for _, f := range []api.File{wood.Text("f", "x"), wood.Link("f", "x"), wood.Dir("f")} {
		if why, p := trees.Check(deep(api.MaxNest, f)); why != api.OK || p != nil {
			t.Errorf("Check at MaxNest: %d, %q", why, p)
		}
		for _, more := range []int{1, 2, 1000} {
			want := deepPath(api.MaxNest+1, "n")
			if more == 1 {
				want = deepPath(api.MaxNest+1, "f")
			}
			if why, p := trees.Check(deep(api.MaxNest+more, f)); why != api.ErrTree || !slices.Equal(p, want) {
				t.Errorf("Check past MaxNest: %d, %q", why, p)
			}
		}
	}
	// Names as long as can be: a tree's paths have no bound in bytes.
	f := wood.Text("f", "")
	for range api.MaxNest - 1 {
		f = wood.Dir(strings.Repeat("n", api.MaxName), f)
	}
	if why, _ := trees.Check(wood.Root(f)); why != api.OK {
		t.Errorf("Check of long names: %d", why)
	}
	// A folder that lies in itself ends nowhere.
	ring := []api.File{wood.Dir("n")}
	ring[0].Files = ring
	if why, p := trees.Check(wood.Root(ring...)); why != api.ErrTree || len(p) != api.MaxNest+1 {
		t.Errorf("Check of a ring: %d, %q", why, p)
	}
}

// 3.1
func TestSame(t *testing.T) {
	list := append(small(), api.File{}, wood.Text("", "x"), wood.Dir("a"), api.File{Kind: 200}, api.File{Kind: 200, Data: "x"}, wood.Root(wood.Text("b", ""), wood.Text("a", "")), wood.Root(wood.Text("a", ""), wood.Text("a", "")), deep(1<<16, wood.Text("f", "")))
	for i, a := range list {
		for j, b := range list {
			if trees.Same(a, trees.Copy(b)) != (i == j) {
				t.Fatalf("Same(%v, %v)", a, b)
			}
		}
	}
	for _, f := range []api.File{wood.Dir("a"), wood.Text("b", "x\n"), wood.Link("b", "x\n"), wood.Text("b", "x"), wood.Text("c", "x\n"), api.File{Name: "b", Kind: api.FileText, Data: "x\n", Files: []api.File{{}}}} {
		g := grove()
		g.Files[0].Files[0] = f
		if trees.Same(g, grove()) != (f.Kind == api.FileText && f.Name == "b" && f.Data == "x\n" && f.Files == nil) || trees.Same(g, grove()) != trees.Same(grove(), g) {
			t.Errorf("Same with %v", f)
		}
	}
	if !trees.Same(api.File{Files: []api.File{}}, api.File{}) {
		t.Error("Same: an empty list is none")
	}
}

// 3.1, P1: Copy of whatever there is.
func TestCopy(t *testing.T) {
	for _, f := range append(small(), api.File{}, wood.Text("..", "x"), api.File{Kind: 200, Files: []api.File{{}, {}}}, deep(1<<16, wood.Text("f", "x"))) {
		c := trees.Copy(f)
		if !trees.Same(c, f) || !trees.Same(f, c) {
			t.Fatalf("Copy(%v) = %v", f, c)
		}
		wood.Spoil(c)
		if len(f.Files) > 0 && trees.Same(c, f) {
			t.Fatalf("Copy(%v) shares its memory", f)
		}
	}
}
