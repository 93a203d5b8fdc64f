package inplace_test

import (
	"slices"
	"strconv"
	"strings"
	"testing"

	"paddock/api"
	"paddock/gate"
	"paddock/inplace"
	"paddock/vfs"
	"paddock/wood"
)

// bench is a gate, with the file system behind it.
type bench struct {
	files *vfs.Fs
	gate  *gate.Gate
}

// laid is a bench over a tree; below r may be read, below w written.
func laid(t *testing.T, tree api.File, r, w []api.Path, faults ...int) bench {
	t.Helper()
	f, why := vfs.New(tree, faults)
	g, no := gate.New(f, r, w)
	if why != api.OK || no != api.OK {
		t.Fatal("no gate:", why, no)
	}
	return bench{f, g}
}

// small is a bench as the chapter's examples have it: a text /a/b, "x"; the gate may write below a.
func small(t *testing.T, faults ...int) bench {
	t.Helper()
	return laid(t, wood.Root(wood.Dir("a", wood.Text("b", "x")), wood.Text("s", "secret")), nil, wood.Paths("a"), faults...)
}

// begun is an edit that could be begun.
func begun(t *testing.T, b bench, path, old, suffix string, each int) *inplace.Edit {
	t.Helper()
	e, why := inplace.New(b.gate, path, old, suffix, each)
	if e == nil || why != api.OK {
		t.Fatal("New:", e, why)
	}
	return e
}

// want holds an error against another one.
func want(t *testing.T, what string, why, no api.Errno) {
	t.Helper()
	if why != no {
		t.Errorf("%s: error %d, not %d", what, why, no)
	}
}

// holds holds the texts of the file system, and the calls without Lstats.
func (b bench) holds(t *testing.T, files, calls string) {
	t.Helper()
	if got := wood.Texts(b.files.Tree()); got != files {
		t.Errorf("the files are %s, not %s", got, files)
	}
	if got := b.calls(); got != calls {
		t.Errorf("the calls are %s, not %s", got, calls)
	}
}

// calls are the calls and the denial of a gate's log, but Lstats.
func (b bench) calls() string {
	names := [api.CallCount]string{"none", "lstat", "read", "create", "append", "rename", "exec"}
	var words []string
	for _, e := range b.gate.Log() {
		if e.Call.Kind == api.CallLstat {
			continue
		}
		word := names[e.Call.Kind] + wood.Own(e.Call.Path)
		if e.Call.Kind == api.CallRename {
			word += ">" + wood.Own(e.Call.To)
		}
		if e.Call.Why != api.OK {
			word += "=" + strconv.Itoa(int(e.Call.Why))
		}
		if e.Deny != api.DenyNone {
			word += "!" + e.Text
		}
		words = append(words, word)
	}
	return strings.Join(words, " ")
}

// Example 2, and the log's calls.
func TestExamples(t *testing.T) {
	for suffix, calls := range map[string]string{
		"":      "",
		".old":  "create/a/b.old append/a/b.old ",
		"old-*": "create/a/old-b append/a/old-b ",
	} {
		b := small(t)
		e := begun(t, b, "/a/b", "x", suffix, 9)
		want(t, "Put", e.Put("y"), api.OK)
		want(t, "Put", e.Put("z"), api.OK)
		b.holds(t, `/a/b="x" /a/b.paddock~="yz" /s="secret"`, "create/a/b.paddock~ append/a/b.paddock~ append/a/b.paddock~")
		want(t, "Close", e.Close(), api.OK)
		files := map[string]string{"": "", ".old": `/a/b.old="x" `, "old-*": `/a/old-b="x" `}[suffix]
		b.holds(t, `/a/b="yz" `+files+`/s="secret"`, "create/a/b.paddock~ append/a/b.paddock~ append/a/b.paddock~ "+calls+"rename/a/b.paddock~>/a/b")
	}
	// Example 3: the Rename fails; each is 1.
	b := small(t, 8)
	e := begun(t, b, "/a/b", "x", "", 9)
	want(t, "Put", e.Put("y"), api.OK)
	want(t, "Put", e.Put("z"), api.OK)
	want(t, "Close", e.Close(), api.ErrFault)
	b.holds(t, `/a/b="x" /a/b.paddock~="yz" /s="secret"`, "create/a/b.paddock~ append/a/b.paddock~ append/a/b.paddock~ rename/a/b.paddock~>/a/b=42")

	b = small(t)
	e = begun(t, b, "/a/b", "x", "", 1)
	want(t, "Put", e.Put("y"), api.OK)
	want(t, "Put", e.Put("z"), api.ErrEach)
	want(t, "Close", e.Close(), api.OK)
	b.holds(t, `/a/b="y" /s="secret"`, "create/a/b.paddock~ append/a/b.paddock~ rename/a/b.paddock~>/a/b")
}

// 23.2: each error, the one that is named first where several apply; nothing is asked for ahead of the Create.
func TestNew(t *testing.T) {
	long := strings.Repeat("/", api.MaxPath+1)
	for _, c := range []struct {
		none         bool
		path, suffix string
		each         int
		why          api.Errno
	}{
		{true, "", "/", -1, api.ErrNil},
		{true, "/a/b", "", 9, api.ErrNil},
		{false, "", "/", -1, api.ErrPath},
		{false, long, "/", -1, api.ErrLong},
		{false, "/a/b/", "", 9, api.ErrPath},
		{false, "/", "", 9, api.ErrPath},
		{false, "/a/b\x00", "", 9, api.ErrPath},
		{false, "/a/b", "x/", -1, api.ErrPath},
		{false, "/a/b", "*", 9, api.ErrPath},
		{false, "/a/b", ".paddock~", 9, api.ErrPath},
		{false, "/s", "", -1, api.ErrRange},
		{false, "/a/b", "", api.MaxQuota + 1, api.ErrRange},
		{false, "/a/b", ".old", -1 << 62, api.ErrRange},
	} {
		b := small(t)
		g := b.gate
		if c.none {
			g = nil
		}
		e, why := inplace.New(g, c.path, "x", c.suffix, c.each)
		if e != nil || why != c.why {
			t.Errorf("New(%.20q, %q, %d) = %v, %d", c.path, c.suffix, c.each, e, why)
		}
		b.holds(t, `/a/b="x" /s="secret"`, "")
		if b.files.Calls() != 0 {
			t.Errorf("New(%.20q, %q, %d) has made calls", c.path, c.suffix, c.each)
		}
	}
	for _, each := range []int{0, 1, api.MaxQuota} {
		b := small(t)
		if e := begun(t, b, "a/../a/b", "x", "", each); e.Written() != 0 {
			t.Error("Written:", e.Written())
		}
		b.holds(t, `/a/b="x" /a/b.paddock~="" /s="secret"`, "create/a/b.paddock~")
	}
}

// 23.2: the Create's error is New's; a temporary file that is there already is made empty.
func TestNewAsks(t *testing.T) {
	tree := func(more ...api.File) api.File {
		return wood.Root(wood.Dir("a", append([]api.File{wood.Text("b", "x")}, more...)...))
	}
	for _, c := range []struct {
		path   string
		tree   api.File
		faults []int
		why    api.Errno
		calls  string
	}{
		{"/a/b", tree(), nil, api.OK, "create/a/b.paddock~"},
		{"/a/b", tree(wood.Text("b.paddock~", "left")), nil, api.OK, "create/a/b.paddock~"},
		{"/a/z", tree(), nil, api.OK, "create/a/z.paddock~"},
		{"/a/b", tree(), []int{0}, api.ErrFault, ""},
		{"/a/b", tree(), []int{1}, api.ErrFault, "create/a/b.paddock~=42"},
		{"/a/b", tree(wood.Dir("b.paddock~")), nil, api.ErrDir, "create/a/b.paddock~=40"},
		{"/a/b", tree(wood.Link("b.paddock~", "b")), nil, api.ErrDenied, "create/a/b.paddock~!/a/b.paddock~"},
		{"/a/b/c", tree(), nil, api.ErrNoDir, ""},
		{"/a/n/c", tree(), nil, api.ErrNoFile, "create/a/n/c.paddock~=31"},
		{"s", tree(), nil, api.ErrDenied, "create/s.paddock~!/s.paddock~"},
	} {
		b := laid(t, c.tree, nil, wood.Paths("a"), c.faults...)
		e, why := inplace.New(b.gate, c.path, "x", ".old", 9)
		if (e != nil) != (why == api.OK) || why != c.why || b.calls() != c.calls {
			t.Errorf("New(%q) of %s: %d; %s", c.path, wood.Texts(c.tree), why, b.calls())
		}
		if table := wood.Table(b.files.Tree()); table["/a/b"].Data != "x" || why == api.OK && table[c.path+".paddock~"] != (wood.Thing{Kind: api.FileText}) {
			t.Errorf("New(%q) of %s leaves %s", c.path, wood.Texts(c.tree), wood.Texts(b.files.Tree()))
		}
	}
}

// 23.2: names and paths at their limits: the temporary file's ones count.
func TestLongPaths(t *testing.T) {
	deep := strings.Split(strings.Repeat("d", api.MaxNest-1), "")
	wide := []string{strings.Repeat("p", 250), strings.Repeat("q", 250), strings.Repeat("r", 250), strings.Repeat("s", 24)} // 778 bytes
	for _, c := range []struct {
		folders []string
		name    int
		why     api.Errno
	}{
		{nil, api.MaxName - 9, api.OK},
		{nil, api.MaxName - 8, api.ErrDenied},
		{nil, api.MaxName, api.ErrDenied},
		{nil, api.MaxName + 1, api.ErrPath},
		{wide, api.MaxPath - 778 - 10, api.OK},
		{wide, api.MaxPath - 778 - 9, api.ErrDenied},
		{wide, api.MaxPath - 778 - 1, api.ErrDenied},
		{wide, api.MaxPath - 778, api.ErrLong},
		{deep, 1, api.OK},
		{append(deep, "e"), 1, api.ErrMany},
	} {
		tree, path := wood.Root(), ""
		for _, name := range slices.Backward(c.folders) {
			tree.Files = []api.File{wood.Dir(name, tree.Files...)}
			path = "/" + name + path
		}
		path += "/" + strings.Repeat("n", c.name)
		b := laid(t, tree, nil, wood.Paths("/"))
		e, why := inplace.New(b.gate, path, "", "", 9)
		if (e != nil) != (why == api.OK) || why != c.why {
			t.Errorf("New of a path with %d folders and a name of %d bytes: %d, not %d", len(c.folders), c.name, why, c.why)
		}
		if e != nil {
			want(t, "Put", e.Put("y"), api.OK)
			want(t, "Close", e.Close(), api.OK)
			if got := wood.Texts(b.files.Tree()); got != path+`="y"` {
				t.Error(got)
			}
		}
	}
}

// 23.3: what is put, and how much; empty texts; the quota at its edge; behind a refused text the edit goes on.
func TestPut(t *testing.T) {
	b := small(t)
	e := begun(t, b, "/a/b", "x", "", 5)
	for _, c := range []struct {
		text    string
		why     api.Errno
		written int
	}{
		{"", api.OK, 0}, {"123456", api.ErrEach, 0}, {"12", api.OK, 2}, {"3456", api.ErrEach, 2}, {"", api.OK, 2},
		{"34", api.OK, 4}, {"56", api.ErrEach, 4}, {"5", api.OK, 5}, {"6", api.ErrEach, 5}, {"", api.OK, 5},
	} {
		calls := b.files.Calls()
		want(t, "Put of "+c.text, e.Put(c.text), c.why)
		if e.Written() != c.written {
			t.Errorf("Written() = %d, not %d", e.Written(), c.written)
		}
		if asked := b.files.Calls() > calls; asked != (c.why == api.OK && c.text != "") {
			t.Errorf("Put(%q): asked %v", c.text, asked)
		}
	}
	want(t, "Close", e.Close(), api.OK)
	b.holds(t, `/a/b="12345" /s="secret"`, "create/a/b.paddock~ append/a/b.paddock~ append/a/b.paddock~ append/a/b.paddock~ rename/a/b.paddock~>/a/b")
	if e.Written() != 5 {
		t.Error("Written behind Close:", e.Written())
	}

	b = small(t)
	e = begun(t, b, "/a/b", "x", "", 0)
	want(t, "Put of nothing", e.Put(""), api.OK)
	want(t, "Put", e.Put("y"), api.ErrEach)
	want(t, "Close", e.Close(), api.OK)
	b.holds(t, `/a/b="" /s="secret"`, "create/a/b.paddock~ rename/a/b.paddock~>/a/b")
}

// 23.3: all bytes are taken as they are, and a great quota is no trouble.
func TestAllBytes(t *testing.T) {
	all := ""
	for b := range 256 {
		all += string([]byte{byte(b)})
	}
	b := small(t)
	e := begun(t, b, "/a/b", all, "~", api.MaxQuota)
	for i := range all {
		want(t, "Put", e.Put(all[i:i+1]), api.OK)
	}
	want(t, "Close", e.Close(), api.OK)
	if table := wood.Table(b.files.Tree()); table["/a/b"].Data != all || table["/a/b~"].Data != all || e.Written() != 256 {
		t.Error(wood.Texts(b.files.Tree()))
	}
}

// 23.3: with the gate's error the edit is done, and nothing more is asked for.
func TestPutFails(t *testing.T) {
	for name, c := range map[string]struct {
		faults []int
		upset  func(b bench) api.Errno
		why    api.Errno
	}{
		"the Lstat fails":  {[]int{4}, nil, api.ErrFault},
		"the Append fails": {[]int{5}, nil, api.ErrFault},
		"the gate is shut": {nil, func(b bench) api.Errno { b.gate.Exec("ls"); return api.OK }, api.ErrDenied},
		"the file is gone": {nil, func(b bench) api.Errno { return b.gate.Rename("a/b.paddock~", "a/c") }, api.ErrNoFile},
	} {
		b := small(t, c.faults...)
		e := begun(t, b, "/a/b", "x", ".old", 9)
		want(t, "Put", e.Put("y"), api.OK)
		if c.upset != nil {
			want(t, name, c.upset(b), api.OK)
			want(t, name+": Put of nothing", e.Put(""), api.OK)
		}
		want(t, name, e.Put("z"), c.why)
		calls := b.calls()
		for i, why := range []api.Errno{e.Put("z"), e.Put(""), e.Put("much too long"), e.Close(), e.Close()} {
			want(t, name+": then call "+strconv.Itoa(i), why, api.ErrDone)
		}
		if e.Written() != 1 || b.calls() != calls || wood.Table(b.files.Tree())["/a/b"].Data != "x" {
			t.Errorf("%s: %d written; %s; %s", name, e.Written(), b.calls(), wood.Texts(b.files.Tree()))
		}
	}
}

// 23.4: what Close asks for, in its order, up to the first error; the edit is done in each case.
func TestClose(t *testing.T) {
	const first = "create/a/b.paddock~ append/a/b.paddock~ "
	for _, c := range []struct {
		old, suffix  string
		faults       []int
		why          api.Errno
		files, calls string
	}{
		{"x", "", nil, api.OK, `/a/b="y"`, "rename/a/b.paddock~>/a/b"},
		{"x", "", []int{4}, api.ErrFault, `/a/b="x" /a/b.paddock~="y"`, ""},
		{"x", "", []int{5}, api.ErrFault, `/a/b="x" /a/b.paddock~="y"`, ""},
		{"x", "", []int{6}, api.ErrFault, `/a/b="x" /a/b.paddock~="y"`, "rename/a/b.paddock~>/a/b=42"},
		{"x", "~", nil, api.OK, `/a/b="y" /a/b~="x"`, "create/a/b~ append/a/b~ rename/a/b.paddock~>/a/b"},
		{"", "~", nil, api.OK, `/a/b="y" /a/b~=""`, "create/a/b~ rename/a/b.paddock~>/a/b"},
		{"what else", "~", nil, api.OK, `/a/b="y" /a/b~="what else"`, "create/a/b~ append/a/b~ rename/a/b.paddock~>/a/b"},
		{"x", "~", []int{4}, api.ErrFault, `/a/b="x" /a/b.paddock~="y"`, ""},
		{"x", "~", []int{5}, api.ErrFault, `/a/b="x" /a/b.paddock~="y"`, "create/a/b~=42"},
		{"x", "~", []int{6}, api.ErrFault, `/a/b="x" /a/b.paddock~="y" /a/b~=""`, "create/a/b~"},
		{"x", "~", []int{7}, api.ErrFault, `/a/b="x" /a/b.paddock~="y" /a/b~=""`, "create/a/b~ append/a/b~=42"},
		{"x", "~", []int{10}, api.ErrFault, `/a/b="x" /a/b.paddock~="y" /a/b~="x"`, "create/a/b~ append/a/b~ rename/a/b.paddock~>/a/b=42"},
	} {
		b := laid(t, wood.Root(wood.Dir("a", wood.Text("b", "x"))), nil, wood.Paths("a"), c.faults...)
		e := begun(t, b, "/a/b", c.old, c.suffix, 9)
		want(t, "Put", e.Put("y"), api.OK)
		want(t, "Close", e.Close(), c.why)
		calls := b.files.Calls()
		want(t, "Close again", e.Close(), api.ErrDone)
		want(t, "Put behind Close", e.Put("z"), api.ErrDone)
		want(t, "Put of nothing behind Close", e.Put(""), api.ErrDone)
		if e.Written() != 1 || b.files.Calls() != calls {
			t.Error("behind Close:", e.Written(), b.calls())
		}
		b.holds(t, c.files, strings.TrimSuffix(first+c.calls, " "))
	}
}

// 23.4: a copy that is denied, or stands where a folder is; a rename that is denied tells the path as it was told.
func TestCloseDenied(t *testing.T) {
	tree := wood.Root(wood.Dir("a", wood.Text("b", "x"), wood.Dir("b.dir"), wood.Link("b.link", "/s"), wood.Text("b.old", "older")), wood.Text("s", "secret"))
	for _, c := range []struct {
		suffix, path string
		read, write  string
		why          api.Errno
		last         string
	}{
		{".dir", "/a/b", "a", "a", api.ErrDir, "create/a/b.dir=40"},
		{".link", "/a/b", "a", "a", api.ErrDenied, "create/a/b.link!/a/b.link"},
		{".old", "/a/b", "a", "a", api.OK, "rename/a/b.paddock~>/a/b"},
		{"", "a/./b", "a b", "a", api.ErrDenied, "rename/a/b>!a/./b"},
		{"", "a/./b", "a", "a b.paddock~", api.ErrDenied, "rename/a/b.paddock~>!/a/b.paddock~"},
		{".old", "a//b", "a", "a b.paddock~", api.ErrDenied, "create/a/b.old!/a/b.old"},
		{strings.Repeat("o", api.MaxName), "a//b", "a", "a", api.ErrDenied, "create!/a/b" + strings.Repeat("o", api.MaxName)},
	} {
		b := laid(t, tree, wood.Paths(c.read), wood.Paths(c.write))
		e := begun(t, b, c.path, "x", c.suffix, 9)
		want(t, "Put", e.Put("y"), api.OK)
		want(t, "Close with "+c.suffix, e.Close(), c.why)
		if got := b.calls(); !strings.HasSuffix(got, c.last) {
			t.Errorf("%q: %s, not %s", c.suffix, got, c.last)
		}
		file, left := "x", true
		if c.why == api.OK {
			file, left = "y", false
		}
		table := wood.Table(b.files.Tree())
		if _, there := table["/a/b.paddock~"]; table["/a/b"].Data != file || there != left || table["/s"].Data != "secret" {
			t.Errorf("%q: %s", c.suffix, wood.Texts(b.files.Tree()))
		}
	}
}

// 23.5: a nil Edit.
func TestNil(t *testing.T) {
	var e *inplace.Edit
	for i, why := range []api.Errno{e.Put(""), e.Put("x"), e.Close(), e.Close()} {
		want(t, "call "+strconv.Itoa(i), why, api.ErrNil)
	}
	if e.Written() != 0 {
		t.Error("Written:", e.Written())
	}
}

// P4: two edits of one gate have nothing to do with one another.
func TestTwoEdits(t *testing.T) {
	b := laid(t, wood.Root(wood.Dir("a", wood.Text("b", "x"), wood.Text("c", "z"))), nil, wood.Paths("a"))
	e, f := begun(t, b, "a/b", "x", "~", 2), begun(t, b, "a/c", "z", "", 3)
	for i, why := range []api.Errno{e.Put("1"), f.Put("2"), e.Put("3"), f.Put("45"), e.Close(), f.Close()} {
		want(t, "call "+strconv.Itoa(i), why, api.OK)
	}
	if got := wood.Texts(b.files.Tree()); got != `/a/b="13" /a/b~="x" /a/c="245"` || e.Written() != 2 || f.Written() != 3 {
		t.Error(got, e.Written(), f.Written())
	}
}
