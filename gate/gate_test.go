package gate_test

import (
	"slices"
	"strconv"
	"strings"
	"testing"

	"paddock/api"
	"paddock/gate"
	"paddock/trees"
	"paddock/vfs"
	"paddock/wood"
)

// tree is the tree T of the chapter's examples.
func tree() api.File {
	return wood.Root(wood.Dir("a", wood.Text("b", "x"), wood.Link("c", "/s")), wood.Text("s", "secret"))
}

// deep is a tree with folders in folders, links among them, and names that come close to one another.
func deep() api.File {
	return wood.Root(
		wood.Dir("a",
			wood.Dir("d", wood.Dir("e", wood.Text("f", "1"), wood.Link("g", "f")), wood.Link("l", "e"), wood.Text("t", "2")),
			wood.Link("k", "d"), wood.Text("t", "3")),
		wood.Text("a!", "4"), wood.Link("b", "a"), wood.Dir("w", wood.Dir("in"), wood.Text("t", "5")), wood.Text("z", "6"))
}

// files is a file system, which must be one.
func files(t *testing.T, f api.File, faults ...int) *vfs.Fs {
	t.Helper()
	out, why := vfs.New(f, faults)
	if why != api.OK {
		t.Fatalf("vfs.New: %d", why)
	}
	return out
}

// opened is a gate ahead of a file system, which must be one.
func opened(t *testing.T, f *vfs.Fs, read, write []api.Path) *gate.Gate {
	t.Helper()
	g, why := gate.New(f, read, write)
	if why != api.OK || g == nil {
		t.Fatalf("New: %v, %d", g, why)
	}
	return g
}

// ask is a request: other is what Append puts behind, or where Rename moves to.
type ask struct {
	kind     api.CallKind
	s, other string
}

func read(s string) ask         { return ask{kind: api.CallRead, s: s} }
func create(s string) ask       { return ask{kind: api.CallCreate, s: s} }
func add(s, data string) ask    { return ask{api.CallAppend, s, data} }
func rename(s, to string) ask   { return ask{api.CallRename, s, to} }
func command(s string) ask      { return ask{kind: api.CallExec, s: s} }
func here(texts ...string) ways { return wood.Paths(texts...) }

type ways = []api.Path

// of makes the request.
func (a ask) of(g *gate.Gate) (string, api.Errno) {
	switch a.kind {
	case api.CallRead:
		return g.Read(a.s)
	case api.CallCreate:
		return "", g.Create(a.s)
	case api.CallAppend:
		return "", g.Append(a.s, a.other)
	case api.CallRename:
		return "", g.Rename(a.s, a.other)
	}
	return "", g.Exec(a.s)
}

var (
	kinds   = [api.CallCount]string{"none", "lstat", "read", "create", "append", "rename", "exec"}
	denials = [api.DenyCount]string{"none", "path", "prefix", "hold", "link", "exec"}
)

// say is an entry in words.
func say(e api.Entry) string {
	c := e.Call
	words := []string{kinds[c.Kind], wood.Own(c.Path)}
	if len(c.To) > 0 {
		words = append(words, "to", wood.Own(c.To))
	}
	if c.Why != api.OK || e.Deny == api.DenyNone {
		words = append(words, strconv.Itoa(int(c.Why)))
	}
	if e.Deny != api.DenyNone || e.Text != "" {
		words = append(words, "denied", denials[e.Deny], strconv.Quote(e.Text))
	}
	return strings.Join(words, " ")
}

func sayAll(l []api.Entry) string {
	var out []string
	for _, e := range l {
		out = append(out, say(e))
	}
	return strings.Join(out, "; ")
}

// checkTrace holds the log against the file system's trace and against Denied.
func checkTrace(t *testing.T, f *vfs.Fs, g *gate.Gate) {
	t.Helper()
	var made []api.Entry
	for _, c := range f.Trace() {
		made = append(made, api.Entry{Call: c})
	}
	log := g.Log()
	e, denied := g.Denied()
	if denied {
		made = append(made, e)
	} else if say(e) != say(api.Entry{}) {
		t.Errorf("P6.4: nothing is denied, but %s", say(e))
	}
	if denied != (len(log) > 0 && log[len(log)-1].Deny != api.DenyNone) || sayAll(log) != sayAll(made) {
		t.Errorf("P6.8: the log %s, the trace %s", sayAll(log), sayAll(made))
	}
}

// P6.2, P6.3, P6.4: each request with a gate of its own: the answer, and all that the log has.
func TestRequests(t *testing.T) {
	type row struct {
		ask  ask
		data string
		why  api.Errno
		log  string
	}
	check := func(f api.File, r, w ways, rows []row) {
		t.Helper()
		for _, c := range rows {
			fs := files(t, f)
			g := opened(t, fs, r, w)
			if data, why := c.ask.of(g); data != c.data || why != c.why || sayAll(g.Log()) != c.log {
				t.Errorf("%v = %q, %d: %s; not %d: %s", c.ask, data, why, sayAll(g.Log()), c.why, c.log)
			}
			checkTrace(t, fs, g)
		}
	}
	const denied = api.ErrDenied
	check(tree(), here("a"), here("a"), []row{
		{read("a/b"), "x", 0, "lstat /a/b 0; read /a/b 0"}, {read("/a/./b"), "x", 0, "lstat /a/b 0; read /a/b 0"}, {read("s/../a//b"), "x", 0, "lstat /a/b 0; read /a/b 0"},
		{read("s"), "", denied, "read /s denied prefix \"s\""}, {read("a/c"), "", denied, "lstat /a/c 0; read /a/c denied link \"a/c\""}, {read("a/../s"), "", denied, "read /s denied prefix \"a/../s\""},
		{read("a/"), "", denied, "read  denied path \"a/\""}, {read(""), "", denied, "read  denied path \"\""}, {read("/"), "", denied, "read  denied path \"/\""}, {read("a/b/."), "", denied, "read  denied path \"a/b/.\""}, {read("a/b/.."), "", denied, "read  denied path \"a/b/..\""}, {read("s/"), "", denied, "read  denied path \"s/\""}, {read("a/b\x00"), "", denied, "read  denied path \"a/b\\x00\""},
		{read("a/z"), "", api.ErrNoFile, "lstat /a/z 31; read /a/z 31"}, {read("a/z/y/x"), "", api.ErrNoFile, "lstat /a/z 31; read /a/z/y/x 31"}, {read("a"), "", api.ErrDir, "read /a 40"},
		{read("a/b/z"), "", api.ErrNoDir, "lstat /a/b 0; lstat /a/b/z 32"}, {read("a/b/z/y"), "", api.ErrNoDir, "lstat /a/b 0; lstat /a/b/z 32"}, {read("a/c/z"), "", denied, "lstat /a/c 0; read /a/c/z denied link \"a/c/z\""}, {read("ab"), "", denied, "read /ab denied prefix \"ab\""},
		{add("a/b", "y"), "", 0, "lstat /a/b 0; append /a/b 0"}, {add("a/z", "y"), "", api.ErrNoFile, "lstat /a/z 31; append /a/z 31"}, {add("a/c", "y"), "", denied, "lstat /a/c 0; append /a/c denied link \"a/c\""}, {add("s", "y"), "", denied, "append /s denied prefix \"s\""}, {add(".", "y"), "", denied, "append  denied path \".\""}, {add("a", "y"), "", api.ErrDir, "append /a 40"},
		{create("a/n"), "", 0, "lstat /a/n 31; create /a/n 0"}, {create("a/b"), "", 0, "lstat /a/b 0; create /a/b 0"}, {create("a/c"), "", denied, "lstat /a/c 0; create /a/c denied link \"a/c\""}, {create("n"), "", denied, "create /n denied prefix \"n\""}, {create("a/n/"), "", denied, "create  denied path \"a/n/\""}, {create("a/n/m"), "", api.ErrNoFile, "lstat /a/n 31; create /a/n/m 31"}, {create("a"), "", api.ErrDir, "create /a 40"},
		{command("ls"), "", denied, "exec  denied exec \"ls\""}, {command(""), "", denied, "exec  denied exec \"\""}, {command("a/b"), "", denied, "exec  denied exec \"a/b\""},
	})
	check(tree(), here("a"), here("a"), []row{
		{rename("a/b", "a/n"), "", 0, "lstat /a/b 0; lstat /a/n 31; rename /a/b to /a/n 0"}, {rename("a/b", "a/b"), "", 0, "lstat /a/b 0; lstat /a/b 0; rename /a/b to /a/b 0"}, {rename("a/z", "a/b"), "", api.ErrNoFile, "lstat /a/z 31; lstat /a/b 0; rename /a/z to /a/b 31"}, {rename("a/z", "a/y/x"), "", api.ErrNoFile, "lstat /a/z 31; lstat /a/y 31; rename /a/z to /a/y/x 31"},
		{rename("a", "a/z"), "", denied, "rename /a denied hold \"a\""}, {rename("a/b", "a"), "", denied, "rename /a denied hold \"a\""}, {rename("a/b", "s/../a"), "", denied, "rename /a denied hold \"s/../a\""},
		{rename("s", "a/n"), "", denied, "rename /s denied prefix \"s\""}, {rename("a/b", "n"), "", denied, "rename /n denied prefix \"n\""}, {rename("", "n"), "", denied, "rename  denied path \"\""}, {rename("a/b", "a/n/"), "", denied, "rename  denied path \"a/n/\""},
		{rename("a/c", "a/n"), "", denied, "lstat /a/c 0; rename /a/c denied link \"a/c\""}, {rename("a/b", "a/./c"), "", denied, "lstat /a/b 0; lstat /a/c 0; rename /a/c denied link \"a/./c\""}, {rename("a/b", "a/c/n"), "", denied, "lstat /a/b 0; lstat /a/c 0; rename /a/c/n denied link \"a/c/n\""},
		// What is denied by itself comes ahead of any look, the end s ahead of to.
		{rename("a/c", "s"), "", denied, "rename /s denied prefix \"s\""}, {rename("a/c", "a"), "", denied, "rename /a denied hold \"a\""}, {rename("s", ""), "", denied, "rename /s denied prefix \"s\""}, {rename("a", ""), "", denied, "rename /a denied hold \"a\""}, {rename("s", "a"), "", denied, "rename /s denied prefix \"s\""},
		{rename("a/b/z", "a/c"), "", api.ErrNoDir, "lstat /a/b 0; lstat /a/b/z 32"}, {rename("a/b", "a/b/z"), "", api.ErrNoDir, "lstat /a/b 0; lstat /a/b 0; lstat /a/b/z 32"},
	})
	// Each kind of call has its own prefixes; each name behind the prefix is looked at.
	check(deep(), here("a"), here("w", "a d e"), []row{
		{read("a/d/e/f"), "1", 0, "lstat /a/d 0; lstat /a/d/e 0; lstat /a/d/e/f 0; read /a/d/e/f 0"}, {read("a/d/l/f"), "", denied, "lstat /a/d 0; lstat /a/d/l 0; read /a/d/l/f denied link \"a/d/l/f\""}, {read("a/k/t"), "", denied, "lstat /a/k 0; read /a/k/t denied link \"a/k/t\""}, {read("w/t"), "", denied, "read /w/t denied prefix \"w/t\""}, {read("a!"), "", denied, "read /a! denied prefix \"a!\""}, {read("b"), "", denied, "read /b denied prefix \"b\""}, {read("a/d"), "", api.ErrDir, "lstat /a/d 0; read /a/d 40"},
		{create("a/t"), "", denied, "create /a/t denied prefix \"a/t\""}, {create("a/d/e/n"), "", 0, "lstat /a/d/e/n 31; create /a/d/e/n 0"}, {create("w/in"), "", api.ErrDir, "lstat /w/in 0; create /w/in 40"}, {add("a/d/e/f", "+"), "", 0, "lstat /a/d/e/f 0; append /a/d/e/f 0"}, {add("a/d/t", "+"), "", denied, "append /a/d/t denied prefix \"a/d/t\""},
		{rename("a/d/e/f", "w/in/f"), "", 0, "lstat /a/d/e/f 0; lstat /w/in 0; lstat /w/in/f 31; rename /a/d/e/f to /w/in/f 0"}, {rename("w/in", "w/n"), "", api.ErrDir, "lstat /w/in 0; lstat /w/n 31; rename /w/in to /w/n 40"}, {rename("a/d", "w/n"), "", denied, "rename /a/d denied prefix \"a/d\""}, {rename("a/d/e", "w/n"), "", denied, "rename /a/d/e denied hold \"a/d/e\""}, {rename("w/t", "w"), "", denied, "rename /w denied hold \"w\""},
	})
	// A read prefix is held too, though it may be written there; of those that lie within another one none is.
	check(deep(), here("a d t", "z"), here("a", "a d e"), []row{
		{rename("a/d/t", "a/n"), "", denied, "rename /a/d/t denied hold \"a/d/t\""}, {rename("a/d", "a/n"), "", denied, "rename /a/d denied hold \"a/d\""}, {rename("a/t", "a/d/t"), "", denied, "rename /a/d/t denied hold \"a/d/t\""}, {rename("a/d/e", "a/n"), "", api.ErrDir, "lstat /a/d 0; lstat /a/d/e 0; lstat /a/n 31; rename /a/d/e to /a/n 40"},
		{read("a/d/t"), "2", 0, "read /a/d/t 0"}, {read("z"), "6", 0, "read /z 0"}, {read("z/y"), "", api.ErrNoDir, "lstat /z/y 32"}, {create("a/d/t"), "", 0, "lstat /a/d 0; lstat /a/d/t 0; create /a/d/t 0"}, {add("a/d/t", ""), "", 0, "lstat /a/d 0; lstat /a/d/t 0; append /a/d/t 0"},
	})
	// The root is a prefix of all; without any prefix nothing is let through; prefixes need not be there.
	check(deep(), here("/", "a"), nil, []row{
		{read("a/t"), "3", 0, "lstat /a 0; lstat /a/t 0; read /a/t 0"}, {read("b/t"), "", denied, "lstat /b 0; read /b/t denied link \"b/t\""}, {read("a!"), "4", 0, "lstat /a! 0; read /a! 0"}, {read("../../z"), "6", 0, "lstat /z 0; read /z 0"}, {create("a/n"), "", denied, "create /a/n denied prefix \"a/n\""}, {rename("a/t", "z"), "", denied, "rename /a/t denied prefix \"a/t\""},
	})
	check(deep(), nil, here("/", "n m", "w t"), []row{
		{read("a/t"), "", denied, "read /a/t denied prefix \"a/t\""}, {create("n"), "", 0, "lstat /n 31; create /n 0"}, {rename("z", "y"), "", 0, "lstat /z 0; lstat /y 31; rename /z to /y 0"}, {rename("n", "m"), "", api.ErrNoFile, "lstat /n 31; lstat /m 31; rename /n to /m 31"},
	})
	check(deep(), here("n m"), here("n m", "w n", "z y"), []row{
		{read("n/m"), "", api.ErrNoFile, "read /n/m 31"}, {create("n/m"), "", api.ErrNoFile, "create /n/m 31"}, {create("w/n"), "", 0, "create /w/n 0"}, {create("z/y"), "", api.ErrNoDir, "create /z/y 32"}, {create("z/y/x"), "", api.ErrNoDir, "lstat /z/y/x 32"}, {create("n/m/l"), "", api.ErrNoFile, "lstat /n/m/l 31; create /n/m/l 31"},
	})
}

// P6.2: the texts at the edges of what paths.Normal takes.
func TestLongTexts(t *testing.T) {
	name := strings.Repeat("n", api.MaxName)
	full := strings.Repeat("/"+name, 4)
	for _, c := range []struct {
		s    string
		why  api.Errno
		deny api.DenyKind
	}{
		{name, api.ErrNoFile, 0}, {name + "n", api.ErrDenied, api.DenyPath}, {full, api.ErrNoFile, 0}, {full + "n", api.ErrDenied, api.DenyPath}, {strings.Repeat("/", api.MaxPath-1) + "z", api.ErrNoFile, 0}, {strings.Repeat("/", api.MaxPath) + "z", api.ErrDenied, api.DenyPath},
		{strings.Repeat("m/", api.MaxNest-1) + "m", api.ErrNoFile, 0}, {strings.Repeat("m/", api.MaxNest) + "m", api.ErrMany, 0},
	} {
		for _, kind := range []api.CallKind{api.CallRead, api.CallAppend} {
			g := opened(t, files(t, tree()), here("/"), here("/"))
			_, why := ask{kind, c.s, ""}.of(g)
			e, denied := g.Denied()
			if why != c.why || denied != (c.deny != 0) || e.Deny != c.deny || denied && (e.Text != c.s || e.Call.Path != nil) {
				t.Errorf("%s of %.20q: %d, %.60v", kinds[kind], c.s, why, e)
			}
		}
	}
}

// P6.2, P6.3: behind a denial all is refused and nothing noted, whatever was denied.
func TestShut(t *testing.T) {
	for _, first := range []ask{read("a/c"), read("s"), create(""), add("a/", ""), rename("a", "a/z"), command("ls")} {
		fs := files(t, tree())
		g := opened(t, fs, here("a"), here("a"))
		if e, denied := g.Denied(); denied || say(e) != say(api.Entry{}) || len(g.Log()) != 0 {
			t.Errorf("a new gate: %v, %v", e, g.Log())
		}
		first.of(g)
		log, calls := sayAll(g.Log()), fs.Calls()
		for _, a := range []ask{read("a/b"), read("a/c"), read(""), create("a/n"), add("a/b", "y"), rename("a/b", "a/n"), command("ls"), command("cat")} {
			if data, why := a.of(g); data != "" || why != api.ErrDenied {
				t.Errorf("%v behind %v: %q, %d", a, first, data, why)
			}
		}
		if sayAll(g.Log()) != log || fs.Calls() != calls || !trees.Same(fs.Tree(), tree()) {
			t.Errorf("behind %v: %s", first, sayAll(g.Log()))
		}
		if e, denied := g.Denied(); !denied || !strings.HasSuffix(log, say(e)) || e.Text != first.s {
			t.Errorf("Denied behind %v: %s", first, say(e))
		}
		checkTrace(t, fs, g)
	}
}

// P6.2: an error is no denial, and leaves the gate open; what was asked for is done.
func TestGoesOn(t *testing.T) {
	fs := files(t, tree())
	g := opened(t, fs, here("a"), here("a"))
	for _, c := range []struct {
		ask  ask
		data string
		why  api.Errno
	}{
		{read("a/z"), "", api.ErrNoFile}, {read("a"), "", api.ErrDir}, {read("a/b/z"), "", api.ErrNoDir}, {add("a/b", "y"), "", 0}, {read("a/b"), "xy", 0}, {create("a/n"), "", 0}, {add("a/n", "1\n"), "", 0}, {add("a/n", "\x00"), "", 0}, {read("a/n"), "1\n\x00", 0}, {rename("a/n", "a/b"), "", 0}, {read("a/b"), "1\n\x00", 0}, {read("a/n"), "", api.ErrNoFile}, {create("a/b"), "", 0}, {read("a/b"), "", 0},
	} {
		if data, why := c.ask.of(g); data != c.data || why != c.why {
			t.Errorf("%v = %q, %d", c.ask, data, why)
		}
	}
	checkTrace(t, fs, g)
	if _, denied := g.Denied(); denied || !trees.Same(fs.Tree(), wood.Root(wood.Dir("a", wood.Text("b", ""), wood.Link("c", "/s")), wood.Text("s", "secret"))) {
		t.Errorf("%v", fs.Tree())
	}
}

// P6.2, P6.4: with each call failing, one by one: a failing Lstat is the answer, and no more is done.
func TestFaults(t *testing.T) {
	for _, c := range []struct {
		ask   ask
		calls []string
	}{
		{read("a/d/t"), []string{"lstat /a/d", "lstat /a/d/t", "read /a/d/t"}}, {create("w/in/n"), []string{"lstat /w/in", "lstat /w/in/n", "create /w/in/n"}}, {add("w/t", "+"), []string{"lstat /w/t", "append /w/t"}},
		{rename("w/t", "w/in/t"), []string{"lstat /w/t", "lstat /w/in", "lstat /w/in/t", "rename /w/t to /w/in/t"}},
		{read("a/k/t"), []string{"lstat /a/k"}}, {rename("w/n/m", "w/in"), []string{"lstat /w/n", "lstat /w/in", "rename /w/n/m to /w/in"}},
	} {
		for i := range c.calls {
			fs := files(t, deep(), i)
			g := opened(t, fs, here("a"), here("w"))
			data, why := c.ask.of(g)
			said := strings.Split(sayAll(g.Log()), "; ")
			if data != "" || why != api.ErrFault || len(said) != i+1 || said[i] != c.calls[i]+" 42" {
				t.Errorf("%v with the call %d failing: %d, %s", c.ask, i, why, said)
			}
			checkTrace(t, fs, g)
			if _, denied := g.Denied(); denied || !trees.Same(fs.Tree(), deep()) {
				t.Errorf("%v with the call %d failing: %v", c.ask, i, fs.Tree())
			}
			if s, why := g.Read("a/t"); s != "3" || why != api.OK {
				t.Errorf("behind a fault: %q, %d", s, why)
			}
		}
	}
}

// P6.5, P1
func TestNil(t *testing.T) {
	var g *gate.Gate
	for _, a := range []ask{read("a/b"), create("a/b"), add("a/b", "y"), rename("a/b", "a/c"), rename("", ""), command("ls")} {
		if data, why := a.of(g); data != "" || why != api.ErrNil {
			t.Errorf("%v of a nil gate: %q, %d", a, data, why)
		}
	}
	if e, denied := g.Denied(); denied || say(e) != say(api.Entry{}) || g.Log() != nil {
		t.Error("a nil gate has a log")
	}
}

// P6.5: what is handed in stays as it is and is not kept; answers are memory of their own.
func TestNewMemory(t *testing.T) {
	prefixes := here("w", "a", "a d", "a")
	r, w := wood.Roomy(prefixes), wood.Roomy(prefixes)
	g := opened(t, files(t, deep()), r, w)
	if !wood.Untouched(r, prefixes) || !wood.Untouched(w, prefixes) {
		t.Errorf("New changed an argument: %q, %q", r, w)
	}
	wood.BlotAll(r)
	wood.BlotAll(w)
	for _, a := range []ask{read("a/d/e/f"), rename("a/d/t", "w/in/t"), read("w/in/t"), create("w/in/m"), add("w/t", "+"), read("a/k/t")} {
		a.of(g)
	}
	const want = "lstat /a/d 0; lstat /a/d/e 0; lstat /a/d/e/f 0; read /a/d/e/f 0; lstat /a/d 0; lstat /a/d/t 0; lstat /w/in 0; lstat /w/in/t 31; rename /a/d/t to /w/in/t 0; lstat /w/in 0; lstat /w/in/t 0; read /w/in/t 0; lstat /w/in 0; lstat /w/in/m 31; create /w/in/m 0; lstat /w/t 0; append /w/t 0; lstat /a/k 0; read /a/k/t denied link \"a/k/t\""
	if s := sayAll(g.Log()); s != want {
		t.Fatalf("Log: %s", s)
	}
	for i := range g.Log() {
		l := g.Log()
		for _, p := range []*api.Path{&l[i].Call.Path, &l[i].Call.To} {
			kept := slices.Clone(*p)
			wood.Blot(*p)
			if *p = kept; sayAll(l) != want {
				t.Errorf("the paths of entry %d share memory: %s", i, sayAll(l))
			}
		}
		full := l[:cap(l)]
		for k := range full {
			full[k] = api.Entry{}
		}
	}
	e, _ := g.Denied()
	wood.Blot(e.Call.Path)
	if e, _ := g.Denied(); sayAll(g.Log()) != want || !strings.HasSuffix(want, say(e)) {
		t.Errorf("an answer was kept: %s, %s", sayAll(g.Log()), say(e))
	}
}

// P6.5, P4: two gates have nothing to do with one another; of one file system each notes its own calls.
func TestTwoGates(t *testing.T) {
	fs := files(t, tree())
	fs.Lstat(wood.Path("s"))
	g, h := opened(t, fs, here("a"), nil), opened(t, fs, here("s"), nil)
	g.Read("s")
	if s, why := h.Read("s"); s != "secret" || why != api.OK {
		t.Errorf("the other gate: %q, %d", s, why)
	}
	if sayAll(g.Log()) != "read /s denied prefix \"s\"" || sayAll(h.Log()) != "read /s 0" || fs.Calls() != 2 {
		t.Errorf("%s; %s", sayAll(g.Log()), sayAll(h.Log()))
	}
}
