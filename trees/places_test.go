package trees_test

import (
	"slices"
	"strings"
	"testing"

	"paddock/api"
	"paddock/trees"
	"paddock/wood"
)

// getError is what the chapter says of Get, by the table.
func getError(table map[string]wood.Thing, p api.Path) api.Errno {
	for i := range p {
		f, there := table[wood.Own(p[:i+1])]
		if !there {
			return api.ErrNoFile
		}
		if i+1 < len(p) && f.Kind != api.FileDir {
			return api.ErrNoDir
		}
	}
	return api.OK
}

// below is the part of a table at a path and below it, seen from there; beside, the rest of it.
func below(table map[string]wood.Thing, p api.Path) (below, beside map[string]wood.Thing) {
	below, beside = map[string]wood.Thing{}, map[string]wood.Thing{}
	for at, x := range table {
		if rest, ok := strings.CutPrefix(at, wood.Own(p)); ok && (rest == "" || rest[0] == '/') {
			below[rest] = x
		} else {
			beside[at] = x
		}
	}
	return below, beside
}

// wrongTrees are such as are not right.
func wrongTrees() []api.File {
	return []api.File{{}, wood.Text("", ""), wood.Dir("a"), wood.Root(wood.Text("b", ""), wood.Text("a", "")), wood.Root(wood.Dir("a", wood.Text("..", ""))), wood.Root(wood.Link("c", "")), deep(api.MaxNest+1, wood.Text("f", ""))}
}

// 3.2: the examples, and all small trees at all paths.
func TestGet(t *testing.T) {
	for _, g := range append(small(), grove()) {
		table := wood.Table(g)
		for _, p := range append(somePaths(), nil, api.Path{}, wood.Path("c"), wood.Path("c z")) {
			f, why := trees.Get(g, p)
			if want := getError(table, p); why != want || why != api.OK && !trees.Same(f, api.File{}) {
				t.Fatalf("Get(%v, %q) = %v, %d, not %d", g, p, f, why, want)
			}
			if why != api.OK {
				continue
			}
			name := ""
			if len(p) > 0 {
				name = p[len(p)-1]
			}
			if want, _ := below(table, p); f.Name != name || !wood.SameTable(wood.Table(f), want) {
				t.Fatalf("Get(%v, %q) = %v", g, p, f)
			}
		}
	}
	f, why := trees.Get(deep(api.MaxNest, wood.Text("f", "x")), deepPath(api.MaxNest, "f"))
	if why != api.OK || f.Data != "x" {
		t.Errorf("Get at MaxNest: %v, %d", f, why)
	}
}

// 3.2: names are found among many.
func TestGetAmongMany(t *testing.T) {
	var files []api.File
	for i := range 256 {
		if i != 0 && i != '/' && i != '.' {
			files = append(files, wood.Text(string([]byte{byte(i)}), string([]byte{byte(i)})))
		}
	}
	g := wood.Root(files...)
	for _, f := range files {
		if h, why := trees.Get(g, api.Path{f.Name}); why != api.OK || !trees.Same(f, h) {
			t.Errorf("Get of %q: %v, %d", f.Name, h, why)
		}
		for _, near := range []string{f.Name + "\x00", f.Name + "x", ""} {
			if _, why := trees.Get(g, api.Path{near}); why != api.ErrNoFile {
				t.Errorf("Get of %q: %d", near, why)
			}
		}
	}
}

// someFiles are files to be put: right ones, and ones that never are.
func someFiles() []api.File {
	return []api.File{wood.Text("old", "new"), wood.Text("", ""), wood.Link("/", "x"), wood.Dir("q"), wood.Dir("", wood.Text("a", "1"), wood.Dir("b", wood.Text("c", "2"))),
		{}, wood.Link("", ""), wood.Dir("", wood.Text("b", ""), wood.Text("a", "")), {Kind: api.FileDir, Data: "x"}, {Kind: api.FileText, Files: []api.File{wood.Text("a", "")}}}
}

// putError is what the chapter says of Put at a right tree.
func putError(table map[string]wood.Thing, p api.Path, f api.File) api.Errno {
	if len(p) == 0 {
		return api.ErrRange
	}
	folder := p[:len(p)-1]
	if why := getError(table, folder); why != api.OK {
		return why
	}
	if len(folder) > 0 && table[wood.Own(folder)].Kind != api.FileDir {
		return api.ErrNoDir
	}
	// Right beside nothing else: a tree with this file alone.
	f.Name = p[len(p)-1]
	if why, _ := trees.Check(wood.Root(f)); why != api.OK {
		return api.ErrTree
	}
	return api.OK
}

// 3.3, 3.8: Put in all small trees at all paths.
func TestPut(t *testing.T) {
	for _, g := range append(small(), grove()) {
		table := wood.Table(g)
		for _, p := range append(somePaths(), nil, wood.Path("c"), wood.Path("c d"), wood.Path("z d")) {
			for _, f := range someFiles() {
				u, why := trees.Put(g, p, f)
				if want := putError(table, p, f); why != want || why != api.OK && !trees.Same(u, api.File{}) {
					t.Fatalf("Put(%v, %q, %v) = %v, %d, not %d", g, p, f, u, why, want)
				}
				if why == api.OK {
					checkPut(t, g, p, f, u)
				}
			}
		}
	}
}

// checkPut holds what Put has answered against what follows of it.
func checkPut(t *testing.T, g api.File, p api.Path, f, u api.File) {
	t.Helper()
	f.Name = p[len(p)-1]
	if h, why := trees.Get(u, p); why != api.OK || !trees.Same(h, f) {
		t.Fatalf("Get(Put(%v, %q, %v)) = %v, %d", g, p, f, h, why)
	}
	stood, before := below(wood.Table(g), p)
	_, behind := below(wood.Table(u), p)
	if why, _ := trees.Check(u); why != api.OK || !wood.SameTable(before, behind) {
		t.Fatalf("Put(%v, %q, %v) = %v", g, p, f, u)
	}
	d, why := trees.Drop(u, p)
	if why != api.OK || len(stood) == 0 && !trees.Same(d, g) {
		t.Fatalf("Drop(Put(%v, %q, %v)) = %v, %d", g, p, f, d, why)
	}
}

// 3.3: at MaxNest names, and at one more.
func TestPutNest(t *testing.T) {
	g := deep(api.MaxNest, wood.Dir("f"))
	for _, c := range []struct {
		p    api.Path
		f    api.File
		want api.Errno
	}{
		{deepPath(api.MaxNest, "g"), wood.Text("", "x"), api.OK},
		{deepPath(api.MaxNest, "g"), wood.Dir(""), api.OK},
		{deepPath(api.MaxNest, "g"), wood.Dir("", wood.Text("h", "")), api.ErrTree},
		{append(deepPath(api.MaxNest, "f"), "g"), wood.Text("", "x"), api.ErrTree},
		{append(deepPath(api.MaxNest, "g"), "g"), wood.Text("", "x"), api.ErrNoFile},
		{wood.Path("m"), deep(api.MaxNest-1, wood.Text("f", "")), api.OK},
		{wood.Path("m"), deep(api.MaxNest, wood.Text("f", "")), api.ErrTree},
		{api.Path{strings.Repeat("m", api.MaxName)}, wood.Text("", ""), api.OK},
		{api.Path{strings.Repeat("m", api.MaxName+1)}, wood.Text("", ""), api.ErrTree},
	} {
		u, why := trees.Put(g, c.p, c.f)
		if why != c.want {
			t.Errorf("Put at %.40q: %d, not %d", c.p, why, c.want)
		}
		if why == api.OK {
			checkPut(t, g, c.p, c.f, u)
		}
	}
	ring := []api.File{wood.Dir("n")}
	ring[0].Files = ring
	if u, why := trees.Put(g, wood.Path("m"), wood.Dir("", ring...)); why != api.ErrTree || u.Files != nil {
		t.Errorf("Put of a ring: %d", why)
	}
}

// 3.3
func TestDrop(t *testing.T) {
	for _, g := range append(small(), grove()) {
		table := wood.Table(g)
		for _, p := range append(somePaths(), nil, wood.Path("c"), wood.Path("c d")) {
			u, why := trees.Drop(g, p)
			want := getError(table, p)
			if len(p) == 0 {
				want = api.ErrRange
			}
			if why != want || why != api.OK && !trees.Same(u, api.File{}) {
				t.Fatalf("Drop(%v, %q) = %v, %d, not %d", g, p, u, why, want)
			}
			if why != api.OK {
				continue
			}
			_, left := below(table, p)
			if no, _ := trees.Check(u); no != api.OK || !wood.SameTable(wood.Table(u), left) {
				t.Fatalf("Drop(%v, %q) = %v", g, p, u)
			}
		}
	}
}

// 3.4: order is that of folders ahead of what is in them, and of names.
func TestList(t *testing.T) {
	l, why := trees.List(wood.Root(wood.Dir("a", wood.Text("b", "x\n"), wood.Dir("c"), wood.Text("d", "")), wood.Text("a-", "123"), wood.Link("c", "/a/b")))
	want := []api.Kept{
		{Path: wood.Path("a"), Kind: api.FileDir}, {Path: wood.Path("a b"), Kind: api.FileText, Size: 2}, {Path: wood.Path("a c"), Kind: api.FileDir},
		{Path: wood.Path("a d"), Kind: api.FileText}, {Path: wood.Path("a-"), Kind: api.FileText, Size: 3}, {Path: wood.Path("c"), Kind: api.FileLink, Size: 4},
	}
	same := func(a, b api.Kept) bool { return slices.Equal(a.Path, b.Path) && a.Kind == b.Kind && a.Size == b.Size }
	if why != api.OK || !slices.EqualFunc(l, want, same) {
		t.Errorf("List: %v, %d", l, why)
	}
	if l, why := trees.List(wood.Root()); why != api.OK || len(l) != 0 {
		t.Errorf("List of an empty tree: %v, %d", l, why)
	}
	for _, g := range small() {
		table := wood.Table(g)
		l, _ := trees.List(g)
		rising := slices.IsSortedFunc(l, func(a, b api.Kept) int { return slices.Compare(a.Path, b.Path) })
		if !rising || len(l) != len(table)-1 {
			t.Fatalf("List(%v) = %v", g, l)
		}
		for _, k := range l {
			if f := table[wood.Own(k.Path)]; f.Kind != k.Kind || len(f.Data) != k.Size {
				t.Fatalf("List(%v) has %v", g, k)
			}
		}
	}
}

// 3.4
func TestChanged(t *testing.T) {
	without, _ := trees.Drop(grove(), wood.Path("a"))
	with, _ := trees.Put(grove(), wood.Path("a b"), wood.Text("", "y"))
	folder, _ := trees.Put(grove(), wood.Path("c"), wood.Dir("", wood.Text("d", "")))
	linked, _ := trees.Put(grove(), wood.Path("c"), wood.Text("", "/a/b"))
	for _, c := range []struct {
		b    api.File
		want []api.Path
	}{
		{with, []api.Path{wood.Path("a b")}},
		{without, []api.Path{wood.Path("a"), wood.Path("a b")}},
		{folder, []api.Path{wood.Path("c"), wood.Path("c d")}},
		{linked, []api.Path{wood.Path("c")}},
		{wood.Root(), []api.Path{wood.Path("a"), wood.Path("a b"), wood.Path("c")}},
		{grove(), nil},
	} {
		if l, why := trees.Changed(grove(), c.b); why != api.OK || !samePaths(l, c.want) {
			t.Errorf("Changed(T, %v) = %q, %d", c.b, l, why)
		}
	}
	// By names, not by the texts: a.b is a greater name than a, though / is above the dot.
	a := wood.Root(wood.Dir("a", wood.Text("z", "")), wood.Text("a.b", ""))
	if l, why := trees.Changed(a, wood.Root()); why != api.OK || !samePaths(l, []api.Path{wood.Path("a"), wood.Path("a z"), wood.Path("a.b")}) {
		t.Errorf("Changed: %q, %d", l, why)
	}
}

func samePaths(a, b []api.Path) bool {
	return slices.EqualFunc(a, b, func(p, q api.Path) bool { return slices.Equal(p, q) })
}

// 3.4, 3.9: all small trees with all.
func TestChangedOfAll(t *testing.T) {
	list := small()
	tables := make([]map[string]wood.Thing, len(list))
	for i, g := range list {
		tables[i] = wood.Table(g)
	}
	for i, a := range list {
		for j, b := range list {
			l, why := trees.Changed(a, b)
			if why != api.OK || !slices.IsSortedFunc(l, func(p, q api.Path) int { return slices.Compare(p, q) }) || (len(l) == 0) != (i == j) {
				t.Fatalf("Changed(%v, %v) = %q, %d", a, b, l, why)
			}
			told := map[string]bool{}
			for _, p := range l {
				told[wood.Own(p)] = true
			}
			differ := 0
			for at, f := range tables[i] {
				if g, ok := tables[j][at]; !ok || f.Kind != g.Kind || f.Data != g.Data {
					differ++
				} else if told[at] {
					t.Fatalf("Changed(%v, %v) has %q", a, b, at)
				}
			}
			for at := range tables[j] {
				if _, ok := tables[i][at]; !ok {
					differ++
				}
			}
			if back, _ := trees.Changed(b, a); len(told) != len(l) || differ != len(l) || !samePaths(l, back) {
				t.Fatalf("Changed(%v, %v) = %q", a, b, l)
			}
		}
	}
}

// 3.2 to 3.5, 3.10: a wrong tree is told ahead of all else.
func TestWrongTrees(t *testing.T) {
	for _, w := range wrongTrees() {
		for _, p := range []api.Path{nil, wood.Path("a"), wood.Path("a b"), {".."}} {
			if f, why := trees.Get(w, p); why != api.ErrTree || !trees.Same(f, api.File{}) {
				t.Errorf("Get(%v, %q) = %v, %d", w, p, f, why)
			}
			if f, why := trees.Put(w, p, wood.Text("", "")); why != api.ErrTree || !trees.Same(f, api.File{}) {
				t.Errorf("Put(%v, %q) = %v, %d", w, p, f, why)
			}
			if f, why := trees.Drop(w, p); why != api.ErrTree || !trees.Same(f, api.File{}) {
				t.Errorf("Drop(%v, %q) = %v, %d", w, p, f, why)
			}
		}
		if l, why := trees.List(w); why != api.ErrTree || l != nil {
			t.Errorf("List(%v) = %v, %d", w, l, why)
		}
		for _, pair := range [][2]api.File{{w, grove()}, {grove(), w}, {w, w}} {
			if l, why := trees.Changed(pair[0], pair[1]); why != api.ErrTree || l != nil {
				t.Errorf("Changed(%v) = %v, %d", pair, l, why)
			}
		}
		if s, why := trees.Print(w); why != api.ErrTree || s != "" {
			t.Errorf("Print(%v) = %q, %d", w, s, why)
		}
		for _, s := range []string{"/a", "", "/["} {
			if l, why, at := trees.Find(w, s); why != api.ErrTree || l != nil || at != 0 {
				t.Errorf("Find(%v, %q) = %v, %d, %d", w, s, l, why, at)
			}
		}
	}
}
