package output_test

import (
	"slices"
	"strconv"
	"strings"
	"testing"

	"paddock/api"
	"paddock/gate"
	"paddock/output"
	"paddock/vfs"
	"paddock/wood"
)

const stdout = "/dev/stdout"

// place is an output, with the gate and the file system behind it.
type place struct {
	*output.Output
	files *vfs.Fs
	gate  *gate.Gate
}

// made is an output over a tree; below r may be read, below w written.
func made(t *testing.T, tree api.File, r, w []api.Path, faults ...int) place {
	t.Helper()
	f, why := vfs.New(tree, faults)
	g, no := gate.New(f, r, w)
	o, none := output.New(g)
	if why != api.OK || no != api.OK || none != api.OK || o == nil {
		t.Fatal("no output:", why, no, none)
	}
	return place{o, f, g}
}

// small is a place as the chapter's examples have it: the gate may write below a, an empty folder.
func small(t *testing.T, faults ...int) place {
	t.Helper()
	return made(t, wood.Root(wood.Dir("a")), nil, wood.Paths("a"), faults...)
}

func out(text string) api.Effect { return api.Effect{Kind: api.EffectOut, Text: text} }
func file(name, text string) api.Effect {
	return api.Effect{Kind: api.EffectFile, Name: name, Text: text}
}
func edit(name, text string) api.Effect {
	return api.Effect{Kind: api.EffectEdit, Name: name, Text: text}
}

// want holds an error against another one.
func want(t *testing.T, what string, why, no api.Errno) {
	t.Helper()
	if why != no {
		t.Errorf("%s: error %d, not %d", what, why, no)
	}
}

// show tells texts with their names.
func show(l []api.Text) string {
	var words []string
	for _, x := range l {
		words = append(words, x.Name+"="+strconv.Quote(x.Data))
		if x.Gone {
			words = append(words, "gone")
		}
	}
	return strings.Join(words, " ")
}

// standing tells the texts of a tree, by their paths.
func standing(tree api.File) string {
	var l []api.Text
	for at, x := range wood.Table(tree) {
		if x.Kind == api.FileText {
			l = append(l, api.Text{Name: at, Data: x.Data})
		}
	}
	slices.SortFunc(l, func(a, b api.Text) int { return strings.Compare(a.Name, b.Name) })
	return show(l)
}

// holds holds all that an output and its file system have.
func (p place) holds(t *testing.T, out, files, tree string) {
	t.Helper()
	if p.Stdout() != out || show(p.Files()) != files || standing(p.files.Tree()) != tree {
		t.Errorf("%q; %s; %s; not %q; %s; %s", p.Stdout(), show(p.Files()), standing(p.files.Tree()), out, files, tree)
	}
}

// calls are the kinds of the calls and of the denial that a gate's log has, but Lstats.
func (p place) calls() string {
	var words []string
	names := [api.CallCount]string{"none", "lstat", "read", "create", "append", "rename", "exec"}
	for _, e := range p.gate.Log() {
		word := names[e.Call.Kind] + wood.Own(e.Call.Path)
		if e.Deny != api.DenyNone {
			word += "!"
		}
		if e.Call.Kind != api.CallLstat {
			words = append(words, word)
		}
	}
	return strings.Join(words, " ")
}

// The chapter's examples.
func TestExamples(t *testing.T) {
	p := small(t)
	want(t, "1: Open", p.Open([]string{"a/x", stdout, "a/y"}), api.OK)
	p.holds(t, "", `a/x="" a/y=""`, `/a/x="" /a/y=""`)
	for _, e := range []api.Effect{file("a/x", "1"), out("2"), file(stdout, "3")} {
		want(t, "1: Put", p.Put(e), api.OK)
	}
	want(t, "1: Put", p.Put(file("./a/x", "4")), api.ErrRange)
	p.holds(t, "23", `a/x="1" a/y=""`, `/a/x="1" /a/y=""`)
	want(t, "3: Put", p.Put(edit("a/x", "1")), api.ErrRange)
	p.holds(t, "23", `a/x="1" a/y=""`, `/a/x="1" /a/y=""`)

	p = small(t)
	want(t, "2: Open", p.Open([]string{"a/x", "b", "a/y"}), api.ErrDenied)
	want(t, "2: Put", p.Put(file("a/x", "1")), api.ErrDenied)
	want(t, "2: Put", p.Put(out("2")), api.OK)
	p.holds(t, "2", `a/x=""`, `/a/x=""`)
}

// P22.1: a gate that is nil; a new output has nothing, and nothing was asked for.
func TestNew(t *testing.T) {
	if o, why := output.New(nil); o != nil || why != api.ErrNil {
		t.Error("New(nil):", o, why)
	}
	p := made(t, wood.Root(wood.Dir("a", wood.Text("x", "old"))), nil, wood.Paths("/"))
	p.holds(t, "", "", `/a/x="old"`)
	want(t, "Put", p.Put(file("a/x", "1")), api.ErrRange)
	if len(p.gate.Log()) != 0 || p.files.Calls() != 0 {
		t.Error(p.calls())
	}
}

// P22.2: what is passed over, what is made empty, in which order; each name is made once.
func TestOpen(t *testing.T) {
	for _, c := range []struct {
		names        []string
		why          api.Errno
		files, calls string
	}{
		{nil, 0, "", ""},
		{[]string{stdout, stdout}, 0, "", ""},
		{[]string{"a/y", "a/x"}, 0, `a/y="" a/x=""`, "create/a/y create/a/x"},
		{[]string{"a/x", "a/x", stdout, "a/y", "a/x"}, 0, `a/x="" a/y=""`, "create/a/x create/a/y"},
		{[]string{"a/x", "./a/x", "/a/x", "a/x"}, 0, `a/x="" ./a/x="" /a/x=""`, "create/a/x create/a/x create/a/x"},
		{[]string{"a/old"}, 0, `a/old=""`, "create/a/old"},
		// Only the one spelling is the standard output.
		{[]string{"a/x", "/dev/./stdout", "a/y"}, api.ErrDenied, `a/x=""`, "create/a/x create/dev/stdout!"},
		{[]string{"dev/stdout"}, api.ErrDenied, "", "create/dev/stdout!"},
		{[]string{stdout + "/"}, api.ErrDenied, "", "create!"},
		{[]string{"a/x", "", "a/y"}, api.ErrDenied, `a/x=""`, "create/a/x create!"},
		{[]string{"a/x", "a/y\x00"}, api.ErrDenied, `a/x=""`, "create/a/x create!"},
		{[]string{"a/link", "a/y"}, api.ErrDenied, "", "create/a/link!"},
		{[]string{"a/x", "a/d", "a/y"}, api.ErrDir, `a/x=""`, "create/a/x create/a/d"},
		{[]string{"a/x", "a/none/z", "a/y"}, api.ErrNoFile, `a/x=""`, "create/a/x create/a/none/z"},
		{[]string{"a/old/z", "a/y"}, api.ErrNoDir, "", ""},
		{[]string{"s"}, api.ErrDenied, "", "create/s!"},
	} {
		p := made(t, wood.Root(wood.Dir("a", wood.Dir("d"), wood.Link("link", "old"), wood.Text("old", "old")), wood.Text("s", "secret")), nil, wood.Paths("a"))
		why := p.Open(c.names)
		if why != c.why || show(p.Files()) != c.files || p.calls() != c.calls || p.Stdout() != "" {
			t.Errorf("Open(%q) = %d; %s; %s", c.names, why, show(p.Files()), p.calls())
		}
		table := wood.Table(p.files.Tree())
		if table["/s"].Data != "secret" || (table["/a/old"].Data == "") != slices.Contains(c.names, "a/old") {
			t.Errorf("Open(%q): the tree is %s", c.names, standing(p.files.Tree()))
		}
	}
}

// P22.2: files that are opened already stay as they are; what failed may be opened later.
func TestOpenAgain(t *testing.T) {
	p := small(t, 3) // the second Create
	want(t, "Open", p.Open([]string{"a/x", "a/y", "a/z"}), api.ErrFault)
	p.holds(t, "", `a/x=""`, `/a/x=""`)
	want(t, "Put", p.Put(file("a/x", "1")), api.OK)
	want(t, "Put, not opened", p.Put(file("a/y", "2")), api.ErrRange)
	want(t, "Put, not looked at", p.Put(file("a/z", "3")), api.ErrRange)
	want(t, "Open again", p.Open([]string{"a/z", "a/x", "a/y"}), api.OK)
	want(t, "Put", p.Put(file("a/y", "4")), api.OK)
	want(t, "Put", p.Put(file("a/x", "5")), api.OK)
	p.holds(t, "", `a/x="15" a/z="" a/y="4"`, `/a/x="15" /a/y="4" /a/z=""`)
	if got := p.calls(); got != "create/a/x create/a/y append/a/x create/a/z create/a/y append/a/y append/a/x" {
		t.Error(got)
	}
}

// P22.3: each kind that there is, and all others; the standard output under its name; empty texts.
func TestPut(t *testing.T) {
	for kind := range 256 {
		for _, name := range []string{"a/x", stdout, "a/y", ""} {
			for _, text := range []string{"t", ""} {
				p := small(t)
				want(t, "Open", p.Open([]string{"a/x"}), api.OK)
				e := api.Effect{Kind: api.EffectKind(kind), Name: name, Text: text}
				no, printed, data, calls := api.ErrRange, "", "", "create/a/x"
				switch {
				case e.Kind == api.EffectOut, e.Kind == api.EffectFile && name == stdout:
					no, printed = api.OK, text
				case e.Kind == api.EffectFile && name == "a/x":
					no, data, calls = api.OK, text, calls+" append/a/x"
				}
				want(t, "Put", p.Put(e), no)
				p.holds(t, printed, `a/x="`+data+`"`, `/a/x="`+data+`"`)
				if p.calls() != calls {
					t.Errorf("Put of %v: %s", e, p.calls())
				}
			}
		}
	}
}

// P22.3, P22.4: what the gate does not do is not written; all bytes are taken as they are.
func TestFailingPut(t *testing.T) {
	all := ""
	for b := range 256 {
		all += string([]byte{byte(b)})
	}
	p := small(t, 3, 4)
	want(t, "Open", p.Open([]string{"a/x"}), api.OK)
	want(t, "the Append fails", p.Put(file("a/x", "1")), api.ErrFault)
	want(t, "the Lstat fails", p.Put(file("a/x", "2")), api.ErrFault)
	p.holds(t, "", `a/x=""`, `/a/x=""`)
	want(t, "Put", p.Put(file("a/x", all)), api.OK)
	want(t, "Put", p.Put(out(all)), api.OK)
	p.holds(t, all, `a/x=`+strconv.Quote(all), `/a/x=`+strconv.Quote(all))
	want(t, "Rename", p.gate.Rename("a/x", "a/y"), api.OK)
	want(t, "Put where no file is any more", p.Put(file("a/x", "3")), api.ErrNoFile)
	p.holds(t, all, `a/x=`+strconv.Quote(all), `/a/y=`+strconv.Quote(all))
}

// P22.4: Read is the gate's, also of the standard output's name.
func TestRead(t *testing.T) {
	tree := wood.Root(wood.Dir("a", wood.Link("l", "r"), wood.Text("r", "read")), wood.Dir("dev", wood.Text("stdout", "file")), wood.Text("s", "secret"))
	for _, name := range []string{"a/r", "./a//r", "a/w", "a/none", "a/l", "a", "a/", "s", "", stdout} {
		p, q := made(t, tree, wood.Paths("a", "dev"), wood.Paths("a")), made(t, tree, wood.Paths("a", "dev"), wood.Paths("a"))
		want(t, "Open", p.Open([]string{"a/w"}), api.OK)
		want(t, "Put", p.Put(file("a/w", "1")), api.OK)
		want(t, "Put", p.Put(out("2")), api.OK)
		want(t, "Create", q.gate.Create("a/w"), api.OK)
		want(t, "Append", q.gate.Append("a/w", "1"), api.OK)
		got, why := p.Read(name)
		data, no := q.gate.Read(name)
		if got != data || why != no || p.calls() != q.calls() {
			t.Errorf("Read(%q) = %q, %d, not %q, %d; %s", name, got, why, data, no, p.calls())
		}
		p.holds(t, "2", `a/w="1"`, strings.Replace(standing(tree), `/a/r="read"`, `/a/r="read" /a/w="1"`, 1))
	}
	p := made(t, tree, wood.Paths("dev"), nil)
	p.Put(out("2"))
	if got, why := p.Read(stdout); got != "file" || why != api.OK {
		t.Errorf("Read(%q) = %q, %d", stdout, got, why)
	}
}

// P22.1: others may ask the gate beside it; Files has only what was put.
func TestOthers(t *testing.T) {
	p := made(t, wood.Root(wood.Dir("a")), wood.Paths("a"), wood.Paths("a"))
	q, _ := output.New(p.gate)
	want(t, "Open", p.Open([]string{"a/x"}), api.OK)
	want(t, "Put", p.Put(file("a/x", "1")), api.OK)
	want(t, "Append", p.gate.Append("a/x", "2"), api.OK)
	want(t, "Put to another output", q.Put(file("a/x", "3")), api.ErrRange)
	want(t, "Put to another output", q.Put(out("4")), api.OK)
	want(t, "Put", p.Put(file("a/x", "5")), api.OK)
	p.holds(t, "", `a/x="15"`, `/a/x="125"`)
	if got, why := q.Read("a/x"); got != "125" || why != api.OK || q.Stdout() != "4" || len(q.Files()) != 0 {
		t.Error("another output of the gate:", got, why, q.Stdout(), q.Files())
	}
}

// P22.9: behind a denial, by whomever, no file changes; the standard output, and names that are passed over, are as before.
func TestShut(t *testing.T) {
	for i, deny := range []func(p place) api.Errno{
		func(p place) api.Errno { return p.Open([]string{"b"}) },
		func(p place) api.Errno { _, why := p.Read("b"); return why },
		func(p place) api.Errno { return p.gate.Exec("ls") },
	} {
		p := small(t)
		want(t, "Open", p.Open([]string{"a/x"}), api.OK)
		want(t, "Put", p.Put(file("a/x", "1")), api.OK)
		want(t, "denial "+strconv.Itoa(i), deny(p), api.ErrDenied)
		calls := p.calls()
		want(t, "Put", p.Put(file("a/x", "2")), api.ErrDenied)
		want(t, "Put of nothing", p.Put(file("a/x", "")), api.ErrDenied)
		want(t, "Put, not opened", p.Put(file("a/y", "3")), api.ErrRange)
		want(t, "Put", p.Put(out("4")), api.OK)
		want(t, "Put", p.Put(file(stdout, "5")), api.OK)
		want(t, "Open of what is opened", p.Open([]string{stdout, "a/x"}), api.OK)
		want(t, "Open", p.Open([]string{"a/x", "a/y"}), api.ErrDenied)
		p.holds(t, "45", `a/x="1"`, `/a/x="1"`)
		if p.calls() != calls {
			t.Error(p.calls(), "not", calls)
		}
	}
}

// P22.5: a nil output.
func TestNil(t *testing.T) {
	var o *output.Output
	s, why := o.Read("a")
	if s != "" || why != api.ErrNil || o.Stdout() != "" || o.Files() != nil {
		t.Error(s, why, o.Stdout(), o.Files())
	}
	for i, why := range []api.Errno{o.Open(nil), o.Open([]string{stdout}), o.Open([]string{"a"}), o.Put(out("")), o.Put(file("a", "b")), o.Put(edit("a", "b")), o.Put(api.Effect{Kind: 99})} {
		want(t, "call "+strconv.Itoa(i), why, api.ErrNil)
	}
}

// P22.5: what is handed in is neither changed nor kept; what is answered is new memory.
func TestMemory(t *testing.T) {
	p := small(t)
	names := append([]string{"a/x", stdout, "a/y"}, "mark")[:3]
	want(t, "Open", p.Open(names), api.OK)
	if !slices.Equal(names[:4], []string{"a/x", stdout, "a/y", "mark"}) {
		t.Errorf("Open has changed its argument: %q", names[:4])
	}
	for i := range names {
		names[i] = "blot"
	}
	want(t, "Put", p.Put(file("a/x", "1")), api.OK)
	first, early := p.Files(), p.Stdout()
	second := p.Files()
	for i := range first[:cap(first)] {
		first[:cap(first)][i] = api.Text{Name: "blot", Data: "blot", Gone: true}
	}
	want(t, "Put", p.Put(file("a/x", "2")), api.OK)
	want(t, "Put", p.Put(out("3")), api.OK)
	if show(second) != `a/x="1" a/y=""` || early != "" {
		t.Error("earlier answers have changed:", show(second), early)
	}
	p.holds(t, "3", `a/x="12" a/y=""`, `/a/x="12" /a/y=""`)
}

// P22.6: many small texts cost no more than their bytes.
func TestLong(t *testing.T) {
	const many = 100000
	p := small(t)
	want(t, "Open", p.Open([]string{"a/x"}), api.OK)
	for range many {
		for _, e := range []api.Effect{file("a/x", "line\n"), out("text\n")} {
			if why := p.Put(e); why != api.OK {
				t.Fatal(why)
			}
		}
	}
	lines := strings.Repeat("line\n", many)
	if l := p.Files(); l[0].Data != lines || p.Stdout() != strings.Repeat("text\n", many) || wood.Table(p.files.Tree())["/a/x"].Data != lines {
		t.Error(len(l[0].Data), len(p.Stdout()))
	}
}
