package inplace_test

import (
	"math/rand"
	"reflect"
	"testing"

	"paddock/api"
	"paddock/audit"
	"paddock/gate"
	"paddock/inplace"
	"paddock/paths"
	"paddock/trees"
	"paddock/vfs"
	"paddock/wood"
)

// model is an edit by the chapter's words, line by line, over a gate of its own.
type model struct {
	gate                            *gate.Gate
	path, old, suffix, temp, backup string
	each, written                   int
	done                            bool
}

func newModel(g *gate.Gate, path, old, suffix string, each int) (*model, api.Errno) {
	folder, name, ok := plainTemp(path)
	if !ok {
		return nil, api.ErrPath
	}
	m := &model{gate: g, path: path, old: old, suffix: suffix, each: each}
	m.temp = folder + "/" + name + ".paddock~"
	if m.backup, ok = plainBackup(folder, name, suffix); !ok {
		return nil, api.ErrPath
	}
	if each < 0 || each > 1<<32 {
		return nil, api.ErrRange
	}
	if why := g.Create(m.temp); why != api.OK {
		return nil, why
	}
	return m, api.OK
}

func (m *model) put(text string) api.Errno {
	if m == nil {
		return api.ErrNil
	}
	if m.done {
		return api.ErrDone
	}
	if text == "" {
		return api.OK
	}
	if m.written+len(text) > m.each {
		return api.ErrEach
	}
	why := m.gate.Append(m.temp, text)
	if why != api.OK {
		m.done = true
	} else {
		m.written += len(text)
	}
	return why
}

func (m *model) close() api.Errno {
	if m == nil {
		return api.ErrNil
	}
	if m.done {
		return api.ErrDone
	}
	m.done = true
	if m.suffix != "" {
		if why := m.gate.Create(m.backup); why != api.OK {
			return why
		}
		if m.old != "" {
			if why := m.gate.Append(m.backup, m.old); why != api.OK {
				return why
			}
		}
	}
	return m.gate.Rename(m.temp, m.path)
}

// chance is a source of numbers that is the same in each run of the tests.
type chance struct{ *rand.Rand }

func (c chance) of(texts ...string) string { return texts[c.Intn(len(texts))] }

// beside is a file that stands where an edit's own ones come to stand, or none.
func (c chance) beside(name string) []api.File {
	switch c.Intn(8) {
	case 0:
		return []api.File{wood.Text(name, "left")}
	case 1:
		return []api.File{wood.Dir(name)}
	case 2:
		return []api.File{wood.Link(name, "/s")}
	}
	return nil
}

// tree has a text /a/b, "old", and perhaps others around.
func (c chance) tree() api.File {
	files := []api.File{wood.Text("b", "old")}
	files = append(files, c.beside("b.paddock~")...)
	files = append(files, c.beside("b.keep")...)
	return wood.Root(wood.Dir("a", wood.Rising(files)...), wood.Link("l", "a"), wood.Text("s", "secret"))
}

// faults are numbers of a few calls.
func (c chance) faults() []int {
	var out []int
	for range c.Intn(3) * c.Intn(2) {
		out = append(out, c.Intn(16))
	}
	return out
}

// kept are the lists of prefixes that a gate may have here: most of them let all through.
func (c chance) kept() ([]api.Path, []api.Path) {
	switch c.Intn(8) {
	case 0:
		return wood.Paths("a b"), wood.Paths("a")
	case 1:
		return nil, wood.Paths("a b.paddock~")
	case 2:
		return nil, wood.Paths("a b", "a b.keep")
	case 3:
		return wood.Paths("/"), wood.Paths("/")
	}
	return wood.Paths("a"), wood.Paths("a")
}

// pair is an edit and its model, each over a gate of its own.
type pair struct {
	b, c bench
	e    *inplace.Edit
	m    *model
}

// holds holds the two against one another.
func (p pair) holds(t *testing.T, what string, why, no api.Errno) {
	t.Helper()
	written := 0
	if p.m != nil {
		written = p.m.written
	}
	if why != no || p.e.Written() != written || (p.e == nil) != (p.m == nil) {
		t.Fatalf("%s: %d, %d bytes, not %d, %d bytes", what, why, p.e.Written(), no, written)
	}
	if !reflect.DeepEqual(p.b.gate.Log(), p.c.gate.Log()) || !trees.Same(p.b.files.Tree(), p.c.files.Tree()) {
		t.Fatalf("%s: %s, %s, not %s, %s", what, p.b.calls(), wood.Texts(p.b.files.Tree()), p.c.calls(), wood.Texts(p.c.files.Tree()))
	}
}

// 23.2 to 23.5: rows of calls, some of which fail or are denied, and behind the end too.
func TestWords(t *testing.T) {
	c := chance{rand.New(rand.NewSource(23))}
	ends := map[api.Errno]int{}
	for range 30000 {
		tree, faults := c.tree(), c.faults()
		r, w := c.kept()
		var p pair
		if _, why := gate.New(anyFs(tree), r, w); why != api.OK {
			continue // a link stands at a prefix
		}
		p.b, p.c = laid(t, tree, r, w, faults...), laid(t, tree, r, w, faults...)
		path := c.of("/a/b", "a/b", "a/./b", "a/b", "a/b", "a/b", "/a/new", "l/b", "s", "/", "a/b/")
		old := c.of("old", "old", "old", "", "other")
		suffix := c.of("", "", ".keep", ".keep", "*.keep", "k*", "*", "/", ".paddock~")
		each := []int{0, 3, 9, 9, 9, 99, 1 << 32, 1<<32 + 1, -1}[c.Intn(9)]
		var why, no api.Errno
		p.e, why = inplace.New(p.b.gate, path, old, suffix, each)
		p.m, no = newModel(p.c.gate, path, old, suffix, each)
		p.holds(t, "New of "+path+" with "+suffix, why, no)
		for range 1 + c.Intn(8) {
			switch c.Intn(12) {
			case 0:
				p.holds(t, "Exec", p.b.gate.Exec("ls"), p.c.gate.Exec("ls"))
			case 1, 2:
				why, no = p.e.Close(), p.m.close()
				p.holds(t, "Close", why, no)
				ends[why]++
			default:
				text := c.of("", "1", "23", "456", "78\n", "nine bytes")
				p.holds(t, "Put of "+text, p.e.Put(text), p.m.put(text))
			}
		}
	}
	for _, why := range []api.Errno{api.OK, api.ErrNil, api.ErrDone, api.ErrDenied, api.ErrFault, api.ErrDir} {
		if ends[why] < 50 {
			t.Errorf("Close has answered %d only %d times", why, ends[why])
		}
	}
}

func anyFs(tree api.File) *vfs.Fs {
	f, _ := vfs.New(tree, nil)
	return f
}

// row is an edit of /a/b by one row of calls: the texts that were put, whether Close is asked for; what was handed to Appends as the trace has them.
type row struct {
	b      bench
	tree   api.File
	suffix string
	put    string // all texts that were put, one behind another
	handed []string
	closed bool
}

// asked is what is handed to the Appends that a call has made since.
func (r *row) asked(before int, text string) {
	for _, c := range r.b.files.Trace()[before:] {
		if c.Kind == api.CallAppend {
			r.handed = append(r.handed, text)
		}
	}
}

// has is what stands at a path of a tree.
func has(tree api.File, path string) (string, bool) {
	p, _, _ := paths.Normal(nil, path)
	f, why := trees.Get(tree, p)
	return f.Data, why == api.OK && f.Kind == api.FileText
}

// run goes through a row, and asks at each moment what the file has.
func (r *row) run(t *testing.T, texts []string, each int, end bool) {
	t.Helper()
	now := func(want string) {
		t.Helper()
		if got, there := has(r.b.files.Tree(), "/a/b"); got != want || !there {
			t.Fatalf("23.6: the file has %q, not %q: %s", got, want, r.b.calls())
		}
	}
	e, why := inplace.New(r.b.gate, "/a/b", "old", r.suffix, each)
	now("old")
	for _, text := range texts {
		before := r.b.files.Calls()
		if e.Put(text) == api.OK {
			r.put += text
		}
		r.asked(before, text)
		now("old")
	}
	if !end || why != api.OK {
		return
	}
	before := r.b.files.Calls()
	r.closed = e.Close() == api.OK
	r.asked(before, "old")
	if r.closed {
		now(r.put)
	} else {
		now("old")
	}
}

// holds holds what follows: at each call's moment the file has one or the other; the copy; where calls lie; what is left.
func (r *row) holds(t *testing.T) {
	t.Helper()
	trace := r.b.files.Trace()
	for n := range len(trace) + 1 {
		var handed []string
		for _, c := range trace[:n] {
			if c.Kind == api.CallAppend {
				handed = r.handed[:len(handed)+1]
			}
		}
		tree, why, at := audit.Replay(r.tree, trace[:n], handed)
		if why != api.OK {
			t.Fatalf("no replay of %d calls: %d at %d", n, why, at)
		}
		want := "old"
		if r.closed && n == len(trace) {
			want = r.put
		}
		if got, _ := has(tree, "/a/b"); got != want {
			t.Fatalf("23.6: behind %d calls the file has %q, not %q: %s", n, got, want, r.b.calls())
		}
	}
	if got, there := has(r.b.files.Tree(), "/a/b"+r.suffix); r.closed && r.suffix != "" && (got != "old" || !there) {
		t.Fatalf("23.7: the copy has %q: %s", got, r.b.calls())
	}
	r.where(t, trace)
}

// where holds the places of calls, and those at which something has changed.
func (r *row) where(t *testing.T, trace []api.Call) {
	t.Helper()
	places := map[string]bool{"/a/b": true, "/a/b.paddock~": true, "/a/b" + r.suffix: true}
	for _, c := range trace {
		if !places[wood.Own(c.Path)] && (c.Kind != api.CallLstat || wood.Own(c.Path) != "/a") || c.Kind == api.CallRename && wood.Own(c.To) != "/a/b" {
			t.Fatalf("23.8: a call at %s: %v", wood.Own(c.Path), c)
		}
	}
	changed, _ := trees.Changed(r.tree, r.b.files.Tree())
	for _, p := range changed {
		if at := wood.Own(p); !places[at] || at == "/a/b" && !r.closed {
			t.Fatalf("23.8: %s has changed: %s", at, r.b.calls())
		}
	}
	if _, left := has(r.b.files.Tree(), "/a/b.paddock~"); left && r.closed {
		t.Fatal("a temporary file is left behind Close: " + r.b.calls())
	}
}

// 23.6 to 23.8: all sets of calls that fail, of a few rows, stopped wherever one stops.
func TestWhole(t *testing.T) {
	puts := []string{"ne", "", "w", "too long a text", "!"}
	tree := wood.Root(wood.Dir("a", wood.Text("b", "old")), wood.Text("s", "secret"))
	whole := 0
	for _, suffix := range []string{"", ".keep"} {
		for set := range 1 << 13 {
			var faults []int
			for i := range 13 {
				if set>>i&1 == 1 {
					faults = append(faults, i)
				}
			}
			for n := range len(puts) + 2 {
				if set > 1<<9 && n < len(puts) {
					continue // no call has so great a number then
				}
				r := &row{b: laid(t, tree, nil, wood.Paths("a"), faults...), tree: tree, suffix: suffix}
				r.run(t, puts[:min(n, len(puts))], 9, n > len(puts))
				r.holds(t)
				if r.closed {
					whole++
				}
			}
		}
	}
	if whole < 2 {
		t.Error("nothing was closed")
	}
}

// 23.6 to 23.8: with others standing where the temporary file and the copy come to stand.
func TestAround(t *testing.T) {
	c := chance{rand.New(rand.NewSource(236))}
	whole := 0
	for range 20000 {
		tree := c.tree()
		write := wood.Paths("a")
		if c.Intn(2) == 0 {
			write = wood.Paths("/")
		}
		r := &row{b: laid(t, tree, nil, write, c.faults()...), tree: tree, suffix: c.of("", ".keep")}
		var puts []string
		for range c.Intn(6) {
			puts = append(puts, c.of("", "1", "23", "nine bytes"))
		}
		r.run(t, puts, c.Intn(12), c.Intn(4) > 0)
		r.holds(t)
		if r.closed {
			whole++
		}
	}
	if whole < 2000 {
		t.Error("only a few were closed:", whole)
	}
}
