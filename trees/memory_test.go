package trees_test

import (
	"slices"
	"testing"

	"paddock/api"
	"paddock/trees"
	"paddock/wood"
)

// roomy is a file with spare room in each of its lists, full of marks.
func roomy(f api.File) api.File {
	files := make([]api.File, len(f.Files)+2)
	for i := range files {
		files[i] = wood.Text("mark", "")
	}
	for i, g := range f.Files {
		files[i] = roomy(g)
	}
	f.Files = files[:len(f.Files)]
	return f
}

// untouched tells whether a roomy file is as it was made of f.
func untouched(r, f api.File) bool {
	if r.Name != f.Name || r.Kind != f.Kind || r.Data != f.Data || len(r.Files) != len(f.Files) || cap(r.Files) < len(f.Files)+2 {
		return false
	}
	for i := range f.Files {
		if !untouched(r.Files[i], f.Files[i]) {
			return false
		}
	}
	for _, g := range r.Files[len(f.Files) : len(f.Files)+2] {
		if g.Name != "mark" || g.Kind != api.FileText {
			return false
		}
	}
	return true
}

// roomyPath is a path with spare room.
func roomyPath(names ...string) api.Path {
	return append(names, "mark", "mark")[:len(names)]
}

// 3.6: arguments stay as they are, and answers are memory of their own: what is written over an answer is not seen in an argument or in a later answer.
func TestNewMemory(t *testing.T) {
	plain := wood.Root(wood.Dir("a", wood.Text("b", "x"), wood.Dir("d", wood.Text("e", ""))), wood.Link("c", "/a/b"))
	put := wood.Dir("", wood.Text("x", "1"), wood.Dir("y", wood.Text("z", "2")))
	given, file := roomy(plain), roomy(put)
	long := roomyPath("a", "d")
	ask := func() (out []api.File) {
		for _, call := range []func() (api.File, api.Errno){
			func() (api.File, api.Errno) { return trees.Copy(given), api.OK },
			func() (api.File, api.Errno) { return trees.Get(given, nil) },
			func() (api.File, api.Errno) { return trees.Get(given, long) },
			func() (api.File, api.Errno) { return trees.Put(given, long, file) },
			func() (api.File, api.Errno) { return trees.Put(given, roomyPath("a", "n"), file) },
			func() (api.File, api.Errno) { return trees.Drop(given, long) },
			func() (api.File, api.Errno) { return trees.Drop(given, roomyPath("c")) },
		} {
			f, why := call()
			if why != api.OK {
				t.Fatalf("error %d", why)
			}
			out = append(out, f)
		}
		return out
	}
	first := ask()
	for _, f := range ask() {
		wood.Spoil(f)
	}
	for i, f := range ask() {
		if !trees.Same(f, first[i]) {
			t.Errorf("answer %d changed: %v", i, f)
		}
	}
	if !untouched(given, plain) || !untouched(file, put) || !slices.Equal(long[:4], wood.Path("a d mark mark")) {
		t.Error("an argument changed")
	}
	// And what is written over the arguments is not seen in an answer.
	again := ask()
	wood.Spoil(given)
	wood.Spoil(file)
	for i, f := range again {
		if !trees.Same(f, first[i]) {
			t.Errorf("answer %d shares an argument's memory: %v", i, f)
		}
	}
}

// 3.6: no two lists of an answer share memory, spare room included.
func TestListsOfTheirOwn(t *testing.T) {
	given := roomy(wood.Root(wood.Dir("a", wood.Dir("b", wood.Text("c", "")), wood.Text("d", "")), wood.Text("e", "x")))
	checkApart := func(what string, ask func() []api.Path) {
		want := ask()
		for i := range want {
			got := ask()
			wood.Blot(got[i])
			for j := range got {
				if i != j && !slices.Equal(got[j], want[j]) {
					t.Errorf("%s: the lists %d and %d share memory", what, i, j)
				}
			}
		}
		if len(want) < 5 {
			t.Errorf("%s: %q", what, want)
		}
	}
	checkApart("List", func() (out []api.Path) {
		l, _ := trees.List(given)
		for _, k := range l {
			out = append(out, k.Path)
		}
		return out
	})
	checkApart("Changed", func() []api.Path {
		l, _ := trees.Changed(given, wood.Root())
		return l
	})
	checkApart("Find", func() []api.Path {
		l, _, _ := trees.Find(given, "/**")
		return l
	})
	bad := wood.Root(wood.Dir("a", wood.Dir("b", wood.Text("..", ""))))
	_, p := trees.Check(bad)
	wood.Blot(p)
	if _, q := trees.Check(bad); !slices.Equal(q, wood.Path("a b ..")) {
		t.Errorf("Check: %q", q)
	}
}

// 3.6: one list that stands twice in what is handed in is two lists in the answer.
func TestSharedListsApart(t *testing.T) {
	files := []api.File{wood.Text("x", "1")}
	given := wood.Root(wood.Dir("a", files...), wood.Dir("b", files...))
	both := func(what string, f api.File, why api.Errno) {
		if why != api.OK || len(f.Files) < 2 {
			t.Fatalf("%s: %v, %d", what, f, why)
		}
		wood.Spoil(f.Files[0])
		if !trees.Same(f.Files[1], wood.Dir("b", wood.Text("x", "1"))) {
			t.Errorf("%s: two lists share memory", what)
		}
	}
	both("Copy", trees.Copy(given), api.OK)
	f, why := trees.Get(given, nil)
	both("Get", f, why)
	f, why = trees.Put(given, wood.Path("a"), wood.Dir("", files...))
	both("Put", f, why)
	f, why = trees.Put(given, wood.Path("c"), wood.Text("", ""))
	both("Put beside", f, why)
	f, why = trees.Drop(wood.Root(given.Files[0], given.Files[1], wood.Text("c", "")), wood.Path("c"))
	both("Drop", f, why)
}
