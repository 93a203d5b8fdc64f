package vfs_test

import (
	"slices"
	"strings"
	"testing"

	"paddock/api"
	"paddock/trees"
	"paddock/vfs"
	"paddock/wood"
)

// dir is a folder; its files may be told in any order.
func dir(name string, files ...api.File) api.File {
	return wood.Dir(name, wood.Rising(files)...)
}

// root is a tree with these files.
func root(files ...api.File) api.File { return dir("", files...) }

// tree is the tree T of the chapter's examples.
func tree() api.File {
	return root(dir("a", wood.Text("b", "x")), wood.Link("c", "a"), wood.Link("d", "/a/b"), wood.Link("e", "e"))
}

// fs is a file system, which must be one.
func fs(t *testing.T, f api.File, faults ...int) *vfs.Fs {
	t.Helper()
	out, why := vfs.New(f, faults)
	if why != api.OK || out == nil {
		t.Fatalf("New: %v, %d", out, why)
	}
	return out
}

// wrongTrees are such as are not right.
func wrongTrees() []api.File {
	return []api.File{{}, wood.Text("", ""), dir("a"), root(wood.Text("a", ""), wood.Text("a", "")), root(wood.Link("c", "")), root(dir("a", wood.Text("..", "")))}
}

// wrongPaths are such as are not right.
func wrongPaths() []api.Path {
	return []api.Path{{".."}, {""}, {"a", "."}, {"a/b"}, {"a\x00"}, {strings.Repeat("n", api.MaxName+1)}, slices.Repeat(api.Path{strings.Repeat("n", 127)}, 9)}
}

// P4.1
func TestReal(t *testing.T) {
	more := root(dir("a", wood.Text("b", "x"), wood.Link("up", "../f/.."), wood.Link("self", "."), wood.Link("z", "nowhere")), wood.Link("c", "a"), wood.Link("cc", "./c/"), wood.Link("d", "/a/b"), wood.Link("f", "../../a/b"), wood.Link("slash", "/"))
	for _, c := range []struct {
		t    api.File
		p    string
		last bool
		want string
		why  api.Errno
	}{
		{tree(), "c b", true, "a b", 0}, {tree(), "d", true, "a b", 0}, {tree(), "d", false, "d", 0}, {tree(), "e", true, "", api.ErrLoop}, {tree(), "z b", true, "", api.ErrNoFile}, {tree(), "d z", true, "", api.ErrNoDir}, {tree(), "a z", true, "a z", 0},
		{tree(), "", true, "", 0}, {tree(), "", false, "", 0}, {tree(), "a", true, "a", 0}, {tree(), "z", true, "z", 0}, {tree(), "z", false, "z", 0},
		{tree(), "e", false, "e", 0}, {tree(), "e z", false, "", api.ErrLoop}, {tree(), "c", false, "c", 0}, {tree(), "c", true, "a", 0}, {tree(), "c z", false, "a z", 0}, {tree(), "c z z", true, "", api.ErrNoFile}, {tree(), "a b z", false, "", api.ErrNoDir}, {tree(), "d z", false, "", api.ErrNoDir}, {tree(), "a b z z", true, "", api.ErrNoDir},
		{more, "cc b", true, "a b", 0}, {more, "cc", true, "a", 0}, {more, "cc up", false, "a up", 0}, {more, "cc up", true, "", 0}, {more, "a up c b", true, "a b", 0}, {more, "a self self b", false, "a b", 0}, {more, "a self z", false, "a z", 0}, {more, "a self z", true, "a nowhere", 0}, {more, "a z q", true, "", api.ErrNoFile}, {more, "f", true, "a b", 0}, {more, "slash", true, "", 0}, {more, "slash", false, "slash", 0}, {more, "slash slash q", true, "q", 0},
	} {
		p, why := vfs.Real(c.t, wood.Path(c.p), c.last)
		if why != c.why || !slices.Equal(p, wood.Path(c.want)) {
			t.Errorf("Real(%q, %v) = %q, %d; not %q, %d", c.p, c.last, p, why, c.want, c.why)
		}
	}
}

// P4.1: what is wrong with the arguments, and that a tree's fault comes first.
func TestWrongArguments(t *testing.T) {
	for _, w := range wrongTrees() {
		for _, p := range append(wrongPaths(), nil, wood.Path("a")) {
			if p, why := vfs.Real(w, p, true); p != nil || why != api.ErrTree {
				t.Errorf("Real(%v) = %q, %d", w, p, why)
			}
		}
		if f, why := vfs.New(w, nil); f != nil || why != api.ErrTree {
			t.Errorf("New(%v) = %v, %d", w, f, why)
		}
	}
	for _, p := range wrongPaths() {
		for _, last := range []bool{true, false} {
			if q, why := vfs.Real(tree(), p, last); q != nil || why != api.ErrPath {
				t.Errorf("Real(%.20q) = %q, %d", p, q, why)
			}
		}
	}
}

// P4.2: a wrong path is no call, whatever the plan says of the next one.
func TestWrongPaths(t *testing.T) {
	f := fs(t, tree(), 0)
	for _, p := range wrongPaths() {
		stat, a := f.Lstat(p)
		data, b := f.Read(p)
		for _, why := range []api.Errno{a, b, f.Create(p), f.Append(p, "x"), f.Rename(p, wood.Path("z")), f.Rename(wood.Path("a b"), p), f.Rename(p, p)} {
			if why != api.ErrPath || stat != (api.Stat{}) || data != "" {
				t.Errorf("%.20q: %d", p, why)
			}
		}
	}
	if f.Calls() != 0 || len(f.Trace()) != 0 || !trees.Same(f.Tree(), tree()) {
		t.Errorf("calls: %v", f.Trace())
	}
	if _, why := f.Read(wood.Path("a b")); why != api.ErrFault || f.Calls() != 1 {
		t.Errorf("the call 0: %d", why)
	}
}

// P4.3: the examples and the edges.
func TestLstat(t *testing.T) {
	f := fs(t, tree())
	for _, c := range []struct {
		p    string
		want api.Stat
		why  api.Errno
	}{
		{"d", api.Stat{Kind: api.FileLink, Size: 4}, 0}, {"a b", api.Stat{Kind: api.FileText, Size: 1}, 0}, {"c b", api.Stat{Kind: api.FileText, Size: 1}, 0}, {"a", api.Stat{Kind: api.FileDir}, 0}, {"", api.Stat{Kind: api.FileDir}, 0}, {"e", api.Stat{Kind: api.FileLink, Size: 1}, 0}, {"c", api.Stat{Kind: api.FileLink, Size: 1}, 0},
		{"z", api.Stat{}, api.ErrNoFile}, {"a z", api.Stat{}, api.ErrNoFile}, {"z z", api.Stat{}, api.ErrNoFile}, {"d z", api.Stat{}, api.ErrNoDir}, {"e z", api.Stat{}, api.ErrLoop},
	} {
		if s, why := f.Lstat(wood.Path(c.p)); s != c.want || why != c.why {
			t.Errorf("Lstat(%q) = %v, %d", c.p, s, why)
		}
	}
}

// P4.3
func TestRead(t *testing.T) {
	f := fs(t, tree())
	for _, c := range []struct {
		p, want string
		why     api.Errno
	}{
		{"a b", "x", 0}, {"c b", "x", 0}, {"d", "x", 0}, {"a", "", api.ErrDir}, {"c", "", api.ErrDir}, {"", "", api.ErrDir}, {"a z", "", api.ErrNoFile}, {"z", "", api.ErrNoFile}, {"z z", "", api.ErrNoFile}, {"d z", "", api.ErrNoDir}, {"e", "", api.ErrLoop},
	} {
		if s, why := f.Read(wood.Path(c.p)); s != c.want || why != c.why {
			t.Errorf("Read(%q) = %q, %d", c.p, s, why)
		}
	}
}

// P4.4
func TestCreateAndAppend(t *testing.T) {
	for _, c := range []struct {
		p              string
		create, append api.Errno
		at             string
	}{
		{"a b", 0, 0, "a b"}, {"c b", 0, 0, "a b"}, {"d", 0, 0, "a b"}, {"a z", 0, api.ErrNoFile, "a z"}, {"c z", 0, api.ErrNoFile, "a z"}, {"z", 0, api.ErrNoFile, "z"},
		{"a", api.ErrDir, api.ErrDir, ""}, {"c", api.ErrDir, api.ErrDir, ""}, {"", api.ErrDir, api.ErrDir, ""}, {"z z", api.ErrNoFile, api.ErrNoFile, ""}, {"d z", api.ErrNoDir, api.ErrNoDir, ""}, {"e", api.ErrLoop, api.ErrLoop, ""},
	} {
		f := fs(t, tree())
		if why := f.Append(wood.Path(c.p), "y"); why != c.append {
			t.Errorf("Append(%q): %d", c.p, why)
		}
		want := tree()
		if c.append == api.OK {
			want, _ = trees.Put(want, wood.Path(c.at), wood.Text("", "xy"))
		}
		if !trees.Same(f.Tree(), want) {
			t.Errorf("Append(%q): %v", c.p, f.Tree())
		}
		if why := f.Create(wood.Path(c.p)); why != c.create {
			t.Errorf("Create(%q): %d", c.p, why)
		}
		if c.create == api.OK {
			want, _ = trees.Put(want, wood.Path(c.at), wood.Text("", ""))
		}
		if !trees.Same(f.Tree(), want) {
			t.Errorf("Create(%q): %v", c.p, f.Tree())
		}
	}
	// Where a link leads nowhere, Create makes what it leads to.
	f := fs(t, root(dir("a"), wood.Link("l", "a/n"), wood.Link("m", "z/n")))
	if f.Append(wood.Path("l"), "x") != api.ErrNoFile || f.Create(wood.Path("l")) != api.OK || f.Append(wood.Path("l"), "x") != api.OK || f.Create(wood.Path("m")) != api.ErrNoFile {
		t.Errorf("links that lead nowhere: %v", f.Trace())
	}
	if !trees.Same(f.Tree(), root(dir("a", wood.Text("n", "x")), wood.Link("l", "a/n"), wood.Link("m", "z/n"))) {
		t.Errorf("links that lead nowhere: %v", f.Tree())
	}
}

// P4.5: each case begins with T.
func TestRename(t *testing.T) {
	b, c, d, e := wood.Text("b", "x"), wood.Link("c", "a"), wood.Link("d", "/a/b"), wood.Link("e", "e")
	for _, x := range []struct {
		p, to string
		why   api.Errno
		want  api.File
	}{
		{"d", "a d", 0, root(dir("a", b, d), c, e)},
		{"a b", "c", 0, root(dir("a"), wood.Text("c", "x"), d, e)},
		{"a b", "a b", 0, tree()}, {"d", "d", 0, tree()}, {"c b", "a b", 0, tree()}, {"a b", "c b", 0, tree()}, {"c", "c", 0, tree()},
		{"a b", "z", 0, root(dir("a"), c, d, e, wood.Text("z", "x"))},
		{"a b", "a a", 0, root(dir("a", wood.Text("a", "x")), c, d, e)},
		{"a b", "c z", 0, root(dir("a", wood.Text("z", "x")), c, d, e)},
		{"c b", "B", 0, root(wood.Text("B", "x"), dir("a"), c, d, e)},
		{"a b", "d", 0, root(dir("a"), c, wood.Text("d", "x"), e)},
		{"d", "a b", 0, root(dir("a", wood.Link("b", "/a/b")), c, e)},
		{"e", "c", 0, root(dir("a", b), wood.Link("c", "e"), d)},
		{"c", "z", 0, root(dir("a", b), d, e, wood.Link("z", "a"))},
		{"a", "z", api.ErrDir, tree()}, {"", "z", api.ErrDir, tree()}, {"a b", "a", api.ErrDir, tree()}, {"a b", "", api.ErrDir, tree()}, {"a", "a", api.ErrDir, tree()},
		{"z", "y", api.ErrNoFile, tree()}, {"z", "a", api.ErrNoFile, tree()}, {"z z", "y", api.ErrNoFile, tree()}, {"d z", "y", api.ErrNoDir, tree()}, {"e z", "y", api.ErrLoop, tree()},
		{"a b", "z y", api.ErrNoFile, tree()}, {"a b", "d y", api.ErrNoDir, tree()}, {"a b", "a b y", api.ErrNoDir, tree()}, {"a b", "e y", api.ErrLoop, tree()},
		// What is wrong with p comes first.
		{"z", "e y", api.ErrNoFile, tree()}, {"a", "e y", api.ErrDir, tree()}, {"d z", "e y", api.ErrNoDir, tree()},
	} {
		f := fs(t, tree())
		if why := f.Rename(wood.Path(x.p), wood.Path(x.to)); why != x.why || !trees.Same(f.Tree(), x.want) {
			t.Errorf("Rename(%q, %q) = %d: %v", x.p, x.to, why, f.Tree())
		}
	}
	f := fs(t, tree())
	f.Rename(wood.Path("d"), wood.Path("a d"))
	if s, why := f.Read(wood.Path("a d")); s != "x" || why != api.OK {
		t.Errorf("the link that was moved: %q, %d", s, why)
	}
}

// P4.6, P1
func TestNil(t *testing.T) {
	var f *vfs.Fs
	for _, p := range []api.Path{nil, wood.Path("a"), {".."}} {
		stat, a := f.Lstat(p)
		data, b := f.Read(p)
		for _, why := range []api.Errno{a, b, f.Create(p), f.Append(p, "x"), f.Rename(p, p)} {
			if why != api.ErrNil || stat != (api.Stat{}) || data != "" {
				t.Errorf("%q: %d", p, why)
			}
		}
	}
	if !trees.Same(f.Tree(), api.File{}) || f.Trace() != nil || f.Calls() != 0 {
		t.Error("a nil file system has something")
	}
}

// P4.2: the plan of the example; a plan may have any numbers, in any order, more than once.
func TestPlan(t *testing.T) {
	f := fs(t, tree(), 1)
	a, why0 := f.Read(wood.Path("a b"))
	why1 := f.Create(wood.Path("a b"))
	b, why2 := f.Read(wood.Path("a b"))
	if a != "x" || why0 != api.OK || why1 != api.ErrFault || b != "x" || why2 != api.OK || f.Calls() != 3 {
		t.Errorf("with the plan 1: %v", f.Trace())
	}
	f = fs(t, tree(), 5, -1, 3, 3, 1<<40, 0, 0, -1<<63)
	for i := range 8 {
		want := api.ErrNoFile
		if i == 0 || i == 3 || i == 5 {
			want = api.ErrFault
		}
		if _, why := f.Lstat(wood.Path("z")); why != want {
			t.Errorf("the call %d: %d", i, why)
		}
	}
	// Each kind fails, a failing call's own errors are not asked for, and nothing is done.
	f = fs(t, tree(), 0, 1, 2, 3, 4, 5)
	stat, why0 := f.Lstat(wood.Path("d"))
	data, why1 := f.Read(wood.Path("a b"))
	for i, why := range []api.Errno{why0, why1, f.Create(wood.Path("a b")), f.Append(wood.Path("a b"), "y"), f.Rename(wood.Path("d"), wood.Path("z")), f.Create(wood.Path("e"))} {
		if why != api.ErrFault {
			t.Errorf("the call %d: %d", i, why)
		}
	}
	if stat != (api.Stat{}) || data != "" || !trees.Same(f.Tree(), tree()) {
		t.Errorf("behind faults: %v, %q, %v", stat, data, f.Tree())
	}
	if _, why := f.Read(wood.Path("a b")); why != api.OK {
		t.Errorf("behind the plan: %d", why)
	}
}

// P4.8: Kind, Path, To, Why, as they were asked for: not the real path.
func TestTrace(t *testing.T) {
	f := fs(t, tree(), 4)
	f.Lstat(wood.Path("d"))
	f.Read(wood.Path("c b"))
	f.Create(wood.Path("e"))
	f.Append(wood.Path("d"), "y")
	f.Rename(wood.Path("d"), wood.Path("c z"))
	f.Rename(wood.Path("d"), wood.Path("c z"))
	f.Read(nil)
	f.Read(api.Path{"."})
	want := []api.Call{
		{Kind: api.CallLstat, Path: wood.Path("d")}, {Kind: api.CallRead, Path: wood.Path("c b")}, {Kind: api.CallCreate, Path: wood.Path("e"), Why: api.ErrLoop},
		{Kind: api.CallAppend, Path: wood.Path("d")}, {Kind: api.CallRename, Path: wood.Path("d"), To: wood.Path("c z"), Why: api.ErrFault}, {Kind: api.CallRename, Path: wood.Path("d"), To: wood.Path("c z")}, {Kind: api.CallRead, Why: api.ErrDir},
	}
	if got := f.Trace(); !slices.EqualFunc(got, want, sameCall) || f.Calls() != len(want) {
		t.Errorf("Trace() = %v, %d", got, f.Calls())
	}
}

func sameCall(a, b api.Call) bool {
	return a.Kind == b.Kind && slices.Equal(a.Path, b.Path) && slices.Equal(a.To, b.To) && a.Why == b.Why
}

// P4.10
func TestTexts(t *testing.T) {
	f := fs(t, tree())
	want := ""
	f.Create(wood.Path("a n"))
	for _, s := range []string{"", "one\n", "", "\x00\xff", "two", strings.Repeat("z", 5000)} {
		before, _ := f.Read(wood.Path("a n"))
		f.Append(wood.Path("a n"), s)
		if before != want {
			t.Errorf("Read ahead of %.20q: %.20q", s, before)
		}
		want += s
		if got, why := f.Read(wood.Path("c n")); got != want || why != api.OK {
			t.Errorf("Read behind %.20q: %.20q, %d", s, got, why)
		}
		if stat, _ := f.Lstat(wood.Path("a n")); stat != (api.Stat{Kind: api.FileText, Size: len(want)}) {
			t.Errorf("Lstat behind %.20q: %v", s, stat)
		}
	}
	f.Rename(wood.Path("a n"), wood.Path("m"))
	f.Append(wood.Path("m"), "!")
	if got, why := f.Read(wood.Path("m")); got != want+"!" || why != api.OK {
		t.Errorf("Read of what was moved: %.20q, %d", got, why)
	}
	if g, why := trees.Get(f.Tree(), wood.Path("m")); why != api.OK || g.Data != want+"!" {
		t.Errorf("Tree: %d", why)
	}
	f.Create(wood.Path("m"))
	f.Append(wood.Path("m"), "y")
	if got, _ := f.Read(wood.Path("m")); got != "y" {
		t.Errorf("Read behind a second Create: %.20q", got)
	}
}

// P4.10: many small pieces.
func TestManyPieces(t *testing.T) {
	f := fs(t, root())
	f.Create(wood.Path("f"))
	const pieces = 200_000
	for range pieces {
		f.Append(wood.Path("f"), "0123456789\n")
	}
	if s, why := f.Read(wood.Path("f")); s != strings.Repeat("0123456789\n", pieces) || why != api.OK || f.Calls() != pieces+2 {
		t.Errorf("%d bytes, %d", len(s), why)
	}
}
