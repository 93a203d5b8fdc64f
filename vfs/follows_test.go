package vfs_test

import (
	"math/rand"
	"slices"
	"strings"
	"testing"

	"paddock/api"
	"paddock/paths"
	"paddock/trees"
	"paddock/vfs"
	"paddock/wood"
)

// model is a file system as a table: of each path's own text what stands there.
type model map[string]wood.Thing

// leads is where a path leads by the chapter's words, with so many links that may still be followed.
func (m model) leads(p api.Path, last bool, links int) (api.Path, api.Errno) {
	if len(p) > api.MaxNest {
		return nil, api.ErrMany
	}
	for i := range p {
		here, there := m[wood.Own(p[:i])]
		if !there {
			return nil, api.ErrNoFile
		}
		if here.Kind != api.FileDir {
			return nil, api.ErrNoDir
		}
		next := m[wood.Own(p[:i+1])]
		if next.Kind != api.FileLink || i == len(p)-1 && !last {
			continue
		}
		if links == 0 {
			return nil, api.ErrLoop
		}
		to, _, why := paths.Normal(p[:i], next.Data)
		if why != api.OK {
			return nil, why
		}
		return m.leads(slices.Concat(to, p[i+1:]), last, links-1)
	}
	return p, api.OK
}

// done is what a call did: its answer, and the real paths that it may have changed.
type done struct {
	stat    api.Stat
	data    string
	why     api.Errno
	changed []api.Path
}

// ask is a call, made of the table.
func (m model) ask(c api.Call, data string) done {
	last := c.Kind == api.CallRead || c.Kind == api.CallCreate || c.Kind == api.CallAppend
	p, why := m.leads(c.Path, last, api.MaxLinks)
	if why != api.OK {
		return done{why: why}
	}
	f, there := m[wood.Own(p)]
	switch {
	case !there && c.Kind != api.CallCreate:
		return done{why: api.ErrNoFile}
	case f.Kind == api.FileDir && c.Kind != api.CallLstat:
		return done{why: api.ErrDir}
	}
	switch c.Kind {
	case api.CallLstat:
		return done{stat: api.Stat{Kind: f.Kind, Size: len(f.Data)}}
	case api.CallRead:
		return done{data: f.Data}
	case api.CallCreate:
		m[wood.Own(p)] = wood.Thing{Kind: api.FileText}
		return done{changed: []api.Path{p}}
	case api.CallAppend:
		m[wood.Own(p)] = wood.Thing{Kind: api.FileText, Data: f.Data + data}
		return done{changed: []api.Path{p}}
	}
	to, why := m.leads(c.To, false, api.MaxLinks)
	if why != api.OK {
		return done{why: why}
	}
	if m[wood.Own(to)].Kind == api.FileDir {
		return done{why: api.ErrDir}
	}
	delete(m, wood.Own(p))
	m[wood.Own(to)] = f
	return done{changed: []api.Path{p, to}}
}

// call makes a call of a file system.
func call(f *vfs.Fs, c api.Call, data string) (out done) {
	switch c.Kind {
	case api.CallLstat:
		out.stat, out.why = f.Lstat(c.Path)
	case api.CallRead:
		out.data, out.why = f.Read(c.Path)
	case api.CallCreate:
		out.why = f.Create(c.Path)
	case api.CallAppend:
		out.why = f.Append(c.Path, data)
	case api.CallRename:
		out.why = f.Rename(c.Path, c.To)
	}
	return out
}

// woods are trees with many links.
func woods() []api.File {
	return []api.File{
		tree(), root(),
		root(dir("a", wood.Text("b", "x"), wood.Link("c", ".."), dir("d")), wood.Link("b", "a/d"), wood.Link("c", "/b/../c/c"), wood.Link("d", "a/b"), wood.Text("e", "")),
		root(dir("a", wood.Link("b", "/c/d"), wood.Link("c", "b")), wood.Link("b", "a/."), dir("c", wood.Link("d", "../e"), wood.Text("b", "z")), wood.Link("d", "/")),
	}
}

// somePaths are paths over the names of the woods.
func somePaths() []api.Path {
	out := []api.Path{nil}
	names := wood.Path("a b c d e")
	for _, n := range names {
		out = append(out, api.Path{n})
		for _, m := range names {
			out = append(out, api.Path{n, m})
		}
	}
	return append(out, wood.Path("a c a"), wood.Path("b c b"), wood.Path("d a b"), wood.Path("a b c d"), wood.Path("c c c c"))
}

func someCalls() []api.Call {
	var out []api.Call
	for _, p := range somePaths() {
		for kind := api.CallLstat; kind <= api.CallAppend; kind++ {
			out = append(out, api.Call{Kind: kind, Path: p})
		}
		for _, to := range somePaths() {
			out = append(out, api.Call{Kind: api.CallRename, Path: p, To: to})
		}
	}
	return out
}

// step makes a call of both, and holds them against each other.
func step(t *testing.T, f *vfs.Fs, m model, c api.Call, data string) done {
	t.Helper()
	before, calls := f.Tree(), f.Calls()
	want := m.ask(c, data)
	got := call(f, c, data)
	if got.stat != want.stat || got.data != want.data || got.why != want.why {
		t.Fatalf("%v of %v: %v, not %v", c, before, got, want)
	}
	behind := f.Tree()
	if why, _ := trees.Check(behind); why != api.OK || !wood.SameTable(wood.Table(behind), m) {
		t.Fatalf("P4.7: %v of %v: %v", c, before, behind)
	}
	l, _ := trees.Changed(before, behind)
	for _, p := range l {
		if !slices.ContainsFunc(want.changed, func(q api.Path) bool { return slices.Equal(p, q) }) {
			t.Fatalf("P4.7: %v of %v changed %q", c, before, p)
		}
	}
	if f.Calls() != calls+1 {
		t.Fatalf("P4.8: %v: %d calls", c, f.Calls())
	}
	return got
}

// P4.1 to P4.5, P4.7: each call of each of the woods, and behind it some others.
func TestEachCall(t *testing.T) {
	list := someCalls()
	for _, g := range woods() {
		for i, c := range list {
			f, m := fs(t, g), model(wood.Table(g))
			step(t, f, m, c, "+")
			for k := range 5 {
				step(t, f, m, list[(i*131+k*977)%len(list)], "-")
			}
		}
	}
}

// P4.7, P4.8: long runs. The source of numbers is the same in each run of the tests.
func TestLongRuns(t *testing.T) {
	source := rand.New(rand.NewSource(4))
	list := someCalls()
	for i := range 400 {
		g := woods()[i%len(woods())]
		f, m := fs(t, g), model(wood.Table(g))
		var want []api.Call
		for range 60 {
			c := list[source.Intn(len(list))]
			if source.Intn(2) == 0 { // else nearly all would be Rename
				c = api.Call{Kind: api.CallKind(1 + source.Intn(4)), Path: c.Path}
			}
			got := step(t, f, m, c, string(rune('a'+source.Intn(26))))
			c.Why = got.why
			want = append(want, c)
		}
		if !slices.EqualFunc(f.Trace(), want, sameCall) || f.Calls() != len(want) {
			t.Fatalf("P4.8: %v, not %v", f.Trace(), want)
		}
	}
}

// P4.9: with faults the others answer what they answer without the failing ones.
func TestFaultsDoNothing(t *testing.T) {
	source := rand.New(rand.NewSource(9))
	list := someCalls()
	for i := range 400 {
		g := woods()[i%len(woods())]
		var run []api.Call
		var faults []int
		for k := range 30 {
			run = append(run, list[source.Intn(len(list))])
			if source.Intn(3) == 0 {
				faults = append(faults, k)
			}
		}
		f, without := fs(t, g, faults...), fs(t, g)
		for k, c := range run {
			before := f.Tree()
			got := call(f, c, "+")
			if slices.Contains(faults, k) {
				if got.why != api.ErrFault || got.data != "" || got.stat != (api.Stat{}) || !trees.Same(before, f.Tree()) {
					t.Fatalf("%v, which fails: %v", c, got)
				}
			} else if want := call(without, c, "+"); got.why != want.why || got.data != want.data || got.stat != want.stat {
				t.Fatalf("%v behind faults: %v, not %v", c, got, want)
			}
		}
		if !trees.Same(f.Tree(), without.Tree()) || f.Calls() != without.Calls()+len(faults) {
			t.Fatalf("the trees differ: %v, %v", f.Tree(), without.Tree())
		}
	}
}

// P4.1, P4.11: Real of all paths of all the woods; of a real path it is itself.
func TestRealOfReal(t *testing.T) {
	for _, g := range woods() {
		m := model(wood.Table(g))
		for _, p := range somePaths() {
			for _, last := range []bool{true, false} {
				q, why := vfs.Real(g, p, last)
				want, no := m.leads(p, last, api.MaxLinks)
				if why != no || !slices.Equal(q, want) {
					t.Fatalf("Real(%v, %q, %v) = %q, %d; not %q, %d", g, p, last, q, why, want, no)
				}
				if why != api.OK || m[wood.Own(q)].Kind == api.FileLink {
					continue
				}
				for _, again := range []bool{true, false} {
					if r, why := vfs.Real(g, q, again); why != api.OK || !slices.Equal(r, q) {
						t.Fatalf("Real(%v, %q, %v) = %q, %d", g, q, again, r, why)
					}
				}
			}
		}
		list, _ := trees.List(g)
		for _, k := range list {
			if r, why := vfs.Real(g, k.Path, false); why != api.OK || !slices.Equal(r, k.Path) {
				t.Fatalf("Real(%v, %q, false) = %q, %d", g, k.Path, r, why)
			}
		}
	}
}

// P4.6: what is handed in is neither changed nor kept, what is answered is new memory.
func TestNewMemory(t *testing.T) {
	given := tree()
	faults := []int{7, 3}
	f := fs(t, given, faults...)
	given.Files[0].Files[0] = wood.Text("spoilt", "")
	given.Files[1] = wood.Text("spoilt", "")
	faults[0], faults[1] = 0, 1
	p, to := append(wood.Path("d"), "mark")[:1], append(wood.Path("c q"), "mark")[:2]
	if f.Append(p, "y") != api.OK || f.Rename(p, to) != api.OK {
		t.Errorf("behind a change of the arguments: %v", f.Trace())
	}
	if p[:2][1] != "mark" || to[:3][2] != "mark" {
		t.Error("spare room was written to")
	}
	p[0], to[0], to[1] = "z", "z", "z"
	want := root(dir("a", wood.Text("b", "xy"), wood.Link("q", "/a/b")), wood.Link("c", "a"), wood.Link("e", "e"))
	calls := []api.Call{{Kind: api.CallAppend, Path: wood.Path("d")}, {Kind: api.CallRename, Path: wood.Path("d"), To: wood.Path("c q")}}
	for range 2 {
		g, l := f.Tree(), f.Trace()
		if !trees.Same(g, want) || !slices.EqualFunc(l, calls, sameCall) {
			t.Fatalf("%v, %v", g, l)
		}
		wood.Spoil(g)
		for i := range l {
			wood.Blot(l[i].Path)
			wood.Blot(l[i].To)
			l[i].Why = 99
		}
		_ = append(l, api.Call{})
	}
	h := tree()
	for _, p := range []api.Path{wood.Path("a b"), wood.Path("c b"), append(wood.Path("a b"), "mark")[:2]} {
		q, _ := vfs.Real(h, p, true)
		wood.Blot(q)
		if !slices.Contains(p, "b") || p[1] != "b" {
			t.Errorf("Real shares its argument: %q", p)
		}
	}
	if !trees.Same(h, tree()) {
		t.Errorf("Real changed its argument: %v", h)
	}
}

// chain is links l0, l1 ... of which each leads to the next, and the last one to the text t.
func chain(links int) api.File {
	var files []api.File
	for i := range links {
		to := "t"
		if i+1 < links {
			to = "l" + strings.Repeat("x", i+1)
		}
		files = append(files, wood.Link("l"+strings.Repeat("x", i), to))
	}
	return root(append(files, wood.Text("t", "end"))...)
}

// The limit MaxLinks: so many are followed, one more is too far; in one call each path has its own count.
func TestMaxLinks(t *testing.T) {
	for _, c := range []struct {
		t    api.File
		p    api.Path
		last bool
		want api.Path
		why  api.Errno
	}{
		{chain(api.MaxLinks), wood.Path("l"), true, wood.Path("t"), 0},
		{chain(api.MaxLinks + 1), wood.Path("l"), true, nil, api.ErrLoop},
		{chain(api.MaxLinks + 1), wood.Path("l"), false, wood.Path("l"), 0},
		{root(wood.Link("d", "."), wood.Text("t", "")), append(slices.Repeat(wood.Path("d"), api.MaxLinks), "t"), true, wood.Path("t"), 0},
		{root(wood.Link("d", "."), wood.Text("t", "")), append(slices.Repeat(wood.Path("d"), api.MaxLinks+1), "t"), true, nil, api.ErrLoop},
		{root(wood.Link("d", "."), wood.Text("t", "")), slices.Repeat(wood.Path("d"), api.MaxLinks+1), false, wood.Path("d"), 0},
		{root(wood.Link("d", "."), wood.Text("t", "")), slices.Repeat(wood.Path("d"), api.MaxLinks+1), true, nil, api.ErrLoop},
		// The loop is told ahead of what is wrong with the link that would be followed.
		{root(wood.Link("d", "."), wood.Link("w", strings.Repeat("n", api.MaxName+1))), append(slices.Repeat(wood.Path("d"), api.MaxLinks), "w"), true, nil, api.ErrLoop},
		{root(wood.Link("d", "."), wood.Link("w", strings.Repeat("n", api.MaxName+1))), append(slices.Repeat(wood.Path("d"), api.MaxLinks-1), "w"), true, nil, api.ErrPath},
	} {
		if p, why := vfs.Real(c.t, c.p, c.last); why != c.why || !slices.Equal(p, c.want) {
			t.Errorf("Real(.., %q, %v) = %q, %d", c.p, c.last, p, why)
		}
	}
	f := fs(t, root(wood.Link("d", "."), wood.Text("t", "x")))
	far := append(slices.Repeat(wood.Path("d"), api.MaxLinks), "t")
	if f.Rename(far, append(far[:api.MaxLinks:api.MaxLinks], "u")) != api.OK {
		t.Errorf("Rename over as many links at both ends: %v", f.Trace())
	}
}

// deep is a folder n in a folder n and so on, with this in the last of so many.
func deep(folders int, f ...api.File) api.File {
	for range folders {
		f = []api.File{dir("n", f...)}
	}
	return root(f...)
}

// The limit MaxNest: of a path that is handed in, ahead of the walk; of a link's path with the names that were left.
func TestMaxNest(t *testing.T) {
	n := func(names int) api.Path { return slices.Repeat(wood.Path("n"), names) }
	full := deep(api.MaxNest-1, wood.Text("t", "x"))
	led := deep(api.MaxNest-1, wood.Text("t", "x"))
	led.Files = slices.Insert(led.Files, 0, wood.Link("l", strings.Repeat("/n", 32)))
	for _, c := range []struct {
		t    api.File
		p    api.Path
		want api.Path
		why  api.Errno
	}{
		{full, append(n(api.MaxNest-1), "t"), append(n(api.MaxNest-1), "t"), 0},
		{full, append(n(api.MaxNest-1), "z"), append(n(api.MaxNest-1), "z"), 0},
		{full, append(n(api.MaxNest-1), "t", "z"), nil, api.ErrMany},
		{full, slices.Repeat(wood.Path("z"), api.MaxNest), nil, api.ErrNoFile},
		{full, slices.Repeat(wood.Path("z"), api.MaxNest+1), nil, api.ErrMany},
		{led, slices.Concat(wood.Path("l"), n(31), wood.Path("t")), append(n(63), "t"), 0},
		{led, slices.Concat(wood.Path("l"), n(31), wood.Path("t z")), nil, api.ErrMany},
		{led, slices.Concat(wood.Path("l"), slices.Repeat(wood.Path("z"), 32)), nil, api.ErrNoFile},
		{led, slices.Concat(wood.Path("l"), slices.Repeat(wood.Path("z"), 33)), nil, api.ErrMany},
	} {
		if p, why := vfs.Real(c.t, c.p, true); why != c.why || !slices.Equal(p, c.want) {
			t.Errorf("Real(.., %q) = %q, %d", c.p, p, why)
		}
	}
	f := fs(t, full)
	over := append(n(api.MaxNest), "t")
	_, a := f.Lstat(over)
	_, b := f.Read(over)
	for i, why := range []api.Errno{a, b, f.Create(over), f.Append(over, ""), f.Rename(over, wood.Path("z")), f.Rename(append(n(api.MaxNest-1), "t"), over)} {
		if why != api.ErrMany || f.Trace()[i].Why != api.ErrMany {
			t.Errorf("the call %d: %d", i, why)
		}
	}
	if why := f.Rename(wood.Path("z"), over); why != api.ErrNoFile || !trees.Same(f.Tree(), full) {
		t.Errorf("Rename: %d", why)
	}
	if f.Create(append(n(api.MaxNest-1), "u")) != api.OK || f.Rename(append(n(api.MaxNest-1), "u"), append(n(api.MaxNest-1), "v")) != api.OK {
		t.Errorf("at MaxNest: %v", f.Trace())
	}
}

// The walk's errors that are those of paths.Normal: of a link's text, of where it leads, of the folder that it lies in.
func TestLinksOfNoPath(t *testing.T) {
	long := strings.Repeat("m", 250)
	folder := api.Path{long, long, long}
	at := func(f ...api.File) api.File {
		return root(dir(long, dir(long, dir(long, f...))), wood.Link("z", "/"+strings.Join(folder, "/")))
	}
	four := dir(long, dir(long, wood.Link("up", "/z"), wood.Text("t", "x")))
	for _, c := range []struct {
		t    api.File
		p    api.Path
		want api.Path
		why  api.Errno
	}{
		{root(wood.Link("l", strings.Repeat("n", api.MaxName))), wood.Path("l"), api.Path{strings.Repeat("n", api.MaxName)}, 0},
		{root(wood.Link("l", strings.Repeat("n", api.MaxName+1))), wood.Path("l"), nil, api.ErrPath},
		{root(wood.Link("l", strings.Repeat("n", api.MaxName+1)+"/..")), wood.Path("l q"), nil, api.ErrPath},
		{at(wood.Link("l", strings.Repeat("n", 255))), append(folder, "l"), append(folder, strings.Repeat("n", 255)), 0},
		{at(wood.Link("l", strings.Repeat("n", 200)+"/"+strings.Repeat("n", 69))), append(folder, "l"), nil, api.ErrNoFile},
		{at(wood.Link("l", strings.Repeat("n", 200)+"/"+strings.Repeat("n", 70))), append(folder, "l"), nil, api.ErrLong},
		// A real path may be longer than MaxPath, with all its names gone over; but no link in such a folder leads on.
		{at(four), api.Path{"z", long, long, "t"}, append(folder, long, long, "t"), 0},
		{at(four), api.Path{"z", long, long, "up"}, nil, api.ErrPath},
		{at(four), api.Path{"z", long, long, "up", "q"}, nil, api.ErrPath},
	} {
		if p, why := vfs.Real(c.t, c.p, true); why != c.why || !slices.Equal(p, c.want) {
			t.Errorf("Real(.., %.20q) = %.20q, %d; not %d", c.p, p, why, c.why)
		}
	}
	f := fs(t, at(four))
	if s, why := f.Read(api.Path{"z", long, long, "t"}); s != "x" || why != api.OK {
		t.Errorf("Read of a long real path: %q, %d", s, why)
	}
	if _, why := f.Read(api.Path{"z", long, long, "up"}); why != api.ErrPath || f.Calls() != 2 {
		t.Errorf("Read of a link in a folder with a long path: %d, %d calls", why, f.Calls())
	}
}
