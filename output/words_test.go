package output_test

import (
	"math/rand"
	"slices"
	"strconv"
	"testing"

	"paddock/api"
	"paddock/gate"
	"paddock/paths"
	"paddock/trees"
	"paddock/vfs"
	"paddock/wood"
)

// A second reading of the chapter's words: all effects that were done stand in one list, in front of a gate of their own.

type model struct {
	files  *vfs.Fs
	gate   *gate.Gate
	opened []string
	done   []api.Effect
}

func (m *model) open(names []string) api.Errno {
	for _, name := range names {
		if name == stdout || slices.Contains(m.opened, name) {
			continue
		}
		if why := m.gate.Create(name); why != api.OK {
			return why
		}
		m.opened = append(m.opened, name)
	}
	return api.OK
}

func (m *model) put(e api.Effect) api.Errno {
	switch {
	case e.Kind == api.EffectOut, e.Kind == api.EffectFile && e.Name == stdout:
		e = out(e.Text)
	case e.Kind != api.EffectFile || !slices.Contains(m.opened, e.Name):
		return api.ErrRange
	default:
		if why := m.gate.Append(e.Name, e.Text); why != api.OK {
			return why
		}
	}
	m.done = append(m.done, e)
	return api.OK
}

// written are the texts of the effects that went to one place.
func (m *model) written(kind api.EffectKind, name string) (s string) {
	for _, e := range m.done {
		if e.Kind == kind && e.Name == name {
			s += e.Text
		}
	}
	return s
}

func (m *model) list() (l []api.Text) {
	for _, name := range m.opened {
		l = append(l, api.Text{Name: name, Data: m.written(api.EffectFile, name)})
	}
	return l
}

// inFile are the texts of the effects that were done under names which lead to a path.
func (m *model) inFile(at api.Path) (s string) {
	for _, e := range m.done {
		if p, _, _ := paths.Normal(nil, e.Name); e.Kind == api.EffectFile && slices.Equal(p, at) {
			s += e.Text
		}
	}
	return s
}

// logTold tells all of a log.
func logTold(l []api.Entry) (s string) {
	for _, e := range l {
		s += strconv.Itoa(int(e.Call.Kind)) + wood.Own(e.Call.Path) + wood.Own(e.Call.To) + " " + strconv.Itoa(int(e.Call.Why)) + " " + strconv.Itoa(int(e.Deny)) + strconv.Quote(e.Text) + "; "
	}
	return s
}

// meadow is a tree with all that can stand where a file is to be written.
func meadow() api.File {
	return wood.Root(wood.Dir("a", wood.Dir("d", wood.Text("t", "old")), wood.Link("l", "t"), wood.Text("t", "old")), wood.Dir("b", wood.Text("t", "old")), wood.Dir("dev", wood.Text("stdout", "old")), wood.Text("s", "secret"))
}

// someNames are names that are let through, most of them; some lead to one file.
func someNames() []string {
	return []string{"a/t", "./a/t", "/a/t", "a/x", "a//x", "a/d/../y", "a/y", "a/d/t", "a/d/./t", "b/t", "b/x", stdout, stdout}
}

// wrongNames are names at which something is in the way.
func wrongNames() []string {
	return []string{"a/d", "a/none/x", "a/t/x", "a/l", "s", "", "a/", "a/x\x00", "/dev/./stdout", "c/x"}
}

// run asks an output and the model for the same, by chance, and holds them against each other.
type run struct {
	t      *testing.T
	chance func(int) int
	p      place
	m      *model
	wrong  int // one of so many names is a wrong one; 0: none
}

func (r *run) name() string {
	l := someNames()
	if r.wrong > 0 && r.chance(r.wrong) == 0 {
		l = wrongNames()
	}
	return l[r.chance(len(l))]
}

func (r *run) names() (l []string) {
	for range r.chance(5) {
		l = append(l, r.name())
	}
	return l
}

func (r *run) effect() api.Effect {
	e := api.Effect{Kind: api.EffectKind(r.chance(6)), Name: r.name(), Text: []string{"", "x", "y\n", "\x00z", "\n\n"}[r.chance(5)]}
	if r.chance(2) == 0 {
		e.Kind = api.EffectFile
	}
	return e
}

func (r *run) same(what string, got, want api.Errno) {
	r.t.Helper()
	if got != want || r.p.Stdout() != r.m.written(api.EffectOut, "") || show(r.p.Files()) != show(r.m.list()) || logTold(r.p.gate.Log()) != logTold(r.m.gate.Log()) || !trees.Same(r.p.files.Tree(), r.m.files.Tree()) {
		r.t.Fatalf("%s: error %d, not %d: %q; %s; %s\nnot %q; %s; %s", what, got, want, r.p.Stdout(), show(r.p.Files()), logTold(r.p.gate.Log()), r.m.written(api.EffectOut, ""), show(r.m.list()), logTold(r.m.gate.Log()))
	}
}

func (r *run) open() {
	l := r.names()
	r.same("Open", r.p.Open(slices.Clone(l)), r.m.open(l))
}

func (r *run) put() {
	e := r.effect()
	r.same("Put", r.p.Put(e), r.m.put(e))
}

func (r *run) read() {
	name := r.name()
	if name == stdout && r.chance(10) > 0 { // it is denied, and little would come behind that
		name = "a/t"
	}
	got, why := r.p.Read(name)
	data, no := r.m.gate.Read(name)
	if got != data {
		r.t.Fatalf("Read(%q) = %q, not %q", name, got, data)
	}
	r.same("Read", why, no)
}

func begun(t *testing.T, chance func(int) int, wrong int, faults ...int) *run {
	t.Helper()
	read, write := wood.Paths("a", "b"), wood.Paths("a", "b t", "b x")
	p := made(t, meadow(), read, write, faults...)
	f, _ := vfs.New(meadow(), faults)
	g, why := gate.New(f, read, write)
	if why != api.OK {
		t.Fatal(why)
	}
	return &run{t: t, chance: chance, p: p, m: &model{files: f, gate: g}, wrong: wrong}
}

// P22.2 to P22.4, P22.6, P22.8, P22.9: long rows of calls, with calls that fail and names that are denied.
func TestRows(t *testing.T) {
	chance := rand.New(rand.NewSource(22)).Intn
	shut, wrote := 0, 0
	for range 2000 {
		var faults []int
		for range chance(4) {
			faults = append(faults, chance(60))
		}
		r := begun(t, chance, []int{0, 10, 60}[chance(3)], faults...)
		for range 30 {
			[]func(){r.open, r.put, r.put, r.put, r.put, r.read}[chance(6)]()
		}
		if _, denied := r.p.gate.Denied(); denied {
			shut++
		}
		wrote += len(r.m.done)
		confined(t, r.p)
	}
	if shut < 300 || shut > 1500 || wrote < 10000 {
		t.Error("the rows do not say much:", shut, wrote)
	}
}

// confined holds the file system's trace and tree against the prefixes that may be written (and Lstat and Read against those that may be read).
func confined(t *testing.T, p place) {
	t.Helper()
	write := wood.Paths("a", "b t", "b x")
	for _, c := range p.files.Trace() {
		if c.Kind != api.CallLstat && c.Kind != api.CallRead && c.Kind != api.CallCreate && c.Kind != api.CallAppend || !paths.Inside(wood.Paths("a", "b"), c.Path) || c.Kind >= api.CallCreate && !paths.Inside(write, c.Path) {
			t.Fatalf("P22.8: %v", c)
		}
	}
	l, _ := trees.Changed(meadow(), p.files.Tree())
	for _, at := range l {
		if !paths.Inside(write, at) {
			t.Fatalf("P22.8: %q has changed", at)
		}
	}
	if x, _ := trees.Get(p.files.Tree(), wood.Path("dev stdout")); x.Data != "old" {
		t.Fatal("P22.8: a file has the standard output's place:", x)
	}
}

// P22.7: each file that is opened has the texts of all effects that were done under its names, if all were opened ahead of them.
func TestInTheFile(t *testing.T) {
	chance := rand.New(rand.NewSource(227)).Intn
	long := 0
	for range 2000 {
		var faults []int
		for range chance(4) {
			faults = append(faults, 20+chance(60))
		}
		r := begun(t, chance, 0, faults...)
		for range 3 {
			r.open()
		}
		for range 40 {
			r.put()
		}
		if l := r.p.Files(); len(l) != len(r.m.opened) {
			t.Fatal(show(l))
		}
		for _, x := range r.p.Files() {
			at, _, _ := paths.Normal(nil, x.Name)
			f, why := trees.Get(r.p.files.Tree(), at)
			if why != api.OK || f.Kind != api.FileText || f.Data != r.m.inFile(at) {
				t.Fatalf("%s has %v, not %q", x.Name, f, r.m.inFile(at))
			}
			if len(f.Data) > len(x.Data) {
				long++
			}
		}
	}
	if long < 1000 {
		t.Error("only a few files have two names:", long)
	}
}

// P22.2: a second name of a file, opened later, makes it empty again; Files tells what was written under each name.
func TestTwoNames(t *testing.T) {
	p := small(t)
	want(t, "Open", p.Open([]string{"a/x", "./a/x"}), api.OK)
	for _, e := range []api.Effect{file("a/x", "1"), file("./a/x", "2"), file("a/x", "3")} {
		want(t, "Put", p.Put(e), api.OK)
	}
	p.holds(t, "", `a/x="13" ./a/x="2"`, `/a/x="123"`)
	want(t, "Open", p.Open([]string{"/a/x"}), api.OK)
	want(t, "Put", p.Put(file("a/x", "4")), api.OK)
	p.holds(t, "", `a/x="134" ./a/x="2" /a/x=""`, `/a/x="4"`)
}
