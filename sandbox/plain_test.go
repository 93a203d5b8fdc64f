package sandbox_test

import (
	"math/rand"
	"path"
	"slices"
	"strconv"
	"strings"
	"testing"

	"paddock/api"
	"paddock/engine"
	"paddock/gate"
	"paddock/lines"
	"paddock/marsh"
	"paddock/program"
	"paddock/sandbox"
	"paddock/script"
	"paddock/vfs"
	"paddock/wood"
)

// ahead is a line that was found, and not handed out yet.
type ahead struct {
	api.Line
	input int
}

// box is a second reading of a run: it looks for lines, edits and names files by itself.
type box struct {
	j      api.Job
	gate   *gate.Gate
	names  []string
	asked  int
	wrong  api.Errno // by which looking has ended
	gone   bool
	data   map[int]string
	ahead  []ahead
	taken  []ahead
	edit   string // the name of the input that is edited, if one is
	old    string
	out    string
	before int // the number of the input of the line ahead of the one that was taken last
}

func (b *box) alone() bool { return b.j.Options.Separate || b.j.Options.InPlace }

func (b *box) look() {
	for len(b.ahead) == 0 && b.asked < len(b.names) && b.wrong == api.OK {
		k := b.asked
		b.asked++
		text, why := b.j.Input, api.OK
		if b.names[k] != "-" {
			text, why = b.gate.Read(b.names[k])
		}
		if why == api.ErrNoFile {
			b.gone = true
			continue
		}
		b.wrong, b.data[k] = why, text
		for _, l := range lines.Split(text) {
			b.ahead = append(b.ahead, ahead{l, k})
		}
	}
}

func (b *box) now() ahead {
	if len(b.taken) == 0 {
		return ahead{input: -1}
	}
	return b.taken[len(b.taken)-1]
}

func (b *box) Take() (api.Line, bool, api.Errno) {
	if b.wrong != api.OK || len(b.ahead) == 0 {
		return api.Line{}, false, b.wrong
	}
	l := b.ahead[0]
	b.ahead = b.ahead[1:]
	b.look()
	if b.wrong != api.OK {
		return api.Line{}, false, b.wrong
	}
	b.before = b.now().input
	b.taken = append(b.taken, l)
	if b.j.Options.InPlace && b.before != l.input {
		if why := b.closeEdit(); why != api.OK {
			return api.Line{}, false, why
		}
		if why := b.beginEdit(b.names[l.input], b.data[l.input]); why != api.OK {
			return api.Line{}, false, why
		}
	}
	return l.Line, true, api.OK
}

// own is a second reading of where a text leads; false: nowhere, or it asks for a folder.
func own(s string) (string, bool) {
	if s == "" || len(s) > 1024 || strings.Contains(s, "\x00") {
		return "", false
	}
	parts := strings.Split(s, "/")
	for _, part := range parts {
		if len(part) > 255 {
			return "", false
		}
	}
	clean := path.Clean("/" + s)
	return clean, !slices.Contains([]string{"", ".", ".."}, parts[len(parts)-1]) && len(clean) <= 1024
}

// copyOf is where a copy of a file is kept; false: none may stand there.
func copyOf(at, suffix string) (string, bool) {
	if suffix == "" {
		return "", true
	}
	name := path.Base(at) + suffix
	if strings.Contains(suffix, "*") {
		name = strings.ReplaceAll(suffix, "*", path.Base(at))
	}
	return strings.TrimSuffix(path.Dir(at), "/") + "/" + name, !strings.ContainsAny(suffix, "/\x00") && name != path.Base(at) && name != path.Base(at)+".paddock~"
}

func (b *box) beginEdit(name, old string) api.Errno {
	if name == "-" {
		return api.OK
	}
	at, _ := own(name)
	if _, ok := copyOf(at, b.j.Options.Suffix); !ok {
		return api.ErrPath
	}
	if why := b.gate.Create(at + ".paddock~"); why != api.OK {
		return why
	}
	b.edit, b.old = name, old
	return api.OK
}

func (b *box) closeEdit() api.Errno {
	if b.edit == "" {
		return api.OK
	}
	at, _ := own(b.edit)
	name := b.edit
	b.edit = ""
	if to, _ := copyOf(at, b.j.Options.Suffix); to != "" {
		if why := b.gate.Create(to); why != api.OK {
			return why
		}
		if b.old != "" {
			if why := b.gate.Append(to, b.old); why != api.OK {
				return why
			}
		}
	}
	return b.gate.Rename(at+".paddock~", name)
}

func (b *box) Last() bool {
	return len(b.ahead) == 0 || b.alone() && b.ahead[0].input != b.now().input
}

func (b *box) Number() int {
	n := 0
	for _, l := range b.taken {
		if !b.alone() || l.input == b.now().input {
			n++
		}
	}
	return n
}

func (b *box) Name() string { return b.names[b.now().input] }

func (b *box) Fresh() bool {
	return b.alone() && b.before >= 0 && b.before != b.now().input
}

func (b *box) Passed() bool { return b.gone }

func (b *box) Put(e api.Effect) api.Errno {
	if e.Kind == api.EffectFile {
		return b.gate.Append(e.Name, e.Text)
	}
	if e.Kind == api.EffectEdit && b.edit != "" {
		at, _ := own(b.edit)
		return b.gate.Append(at+".paddock~", e.Text)
	}
	b.out += e.Text
	return api.OK
}

func (b *box) File(name string) (string, api.Errno) { return b.gate.Read(name) }
func (b *box) Exec(command string) api.Errno        { return b.gate.Exec(command) }

// plainProgram is a job's program, with one name for each file.
func plainProgram(j api.Job) (api.Program, api.Errno, api.Flaw) {
	s, why, flaw := script.Parse(j.Script, j.Options.Extended)
	if why != api.OK {
		return api.Program{}, why, flaw
	}
	for i := range s.Commands {
		c := &s.Commands[i]
		if to, ok := own(c.Text); ok && strings.IndexByte("rRwW", c.Name) >= 0 {
			c.Text = to
		}
		if to, ok := own(c.Subst.File); ok {
			c.Subst.File = to
		}
	}
	p, why, _ := program.Make(s)
	return p, why, flaw
}

// plainRun is a second reading of a run of a job whose policy, names and tree are right.
func plainRun(j api.Job) api.Outcome {
	f, _ := vfs.New(j.Tree, j.Faults)
	g, why := gate.New(f, j.Policy.Read, j.Policy.Write)
	if why != api.OK {
		return api.Outcome{Why: why, Code: 1, Message: "job code " + strconv.Itoa(int(why))}
	}
	p, why, flaw := plainProgram(j)
	if why != api.OK {
		return api.Outcome{Why: why, Code: 1, Flaw: flaw, Message: "script byte " + strconv.Itoa(flaw.At) + " rule " + strconv.Itoa(flaw.Rule)}
	}
	b := &box{j: j, gate: g, names: j.Names, data: map[int]string{}, before: -1}
	if len(b.names) == 0 {
		b.names = []string{"-"}
	}
	var m api.Meaning
	for _, name := range p.Files {
		if why == api.OK && name != "/dev/stdout" {
			why = g.Create(name)
		}
	}
	if why == api.OK {
		b.look()
		m, why = engine.RunOver(p, j.Options, api.Quota{Fuel: j.Policy.Fuel, Memory: j.Policy.Memory, Output: j.Policy.Output, Each: j.Policy.Each}, b)
		if m.Stop <= api.StopQuit {
			why = b.closeEdit()
		}
	}
	o := api.Outcome{Out: b.out, Code: m.Code, Stop: m.Stop, Steps: m.Steps, Cost: m.Cost, Peak: m.Peak, Log: g.Log(), Trace: f.Trace(), Tree: f.Tree()}
	switch {
	case m.Stop == api.StopExec:
		o.Error = api.ErrDenied
	case why == api.ErrDenied:
		o.Stop, o.Code, o.Error = api.StopDenied, 3, why
	case why != api.OK:
		o.Stop, o.Code, o.Error = api.StopFault, 5, why
	}
	o.Message = plainMessage(o)
	return o
}

// plainMessage is a second reading of a run's message.
func plainMessage(o api.Outcome) string {
	names := strings.Fields("none lstat read create append rename exec")
	switch o.Stop {
	case api.StopFuel, api.StopMemory, api.StopOutput, api.StopEach:
		return "exhausted " + strings.Fields("fuel memory output file")[o.Stop-api.StopFuel]
	case api.StopExec, api.StopDenied:
		e := o.Log[len(o.Log)-1]
		text := e.Text
		if e.Deny != api.DenyPath && e.Deny != api.DenyExec {
			text = wood.Own(e.Call.Path)
		}
		return "denied " + names[e.Call.Kind] + " " + lines.Quote(text) + " " + strings.Fields("none path prefix held link command")[e.Deny]
	case api.StopFault:
		call := ""
		if n := len(o.Trace); n > 0 && o.Trace[n-1].Why == o.Error {
			call = names[o.Trace[n-1].Kind] + " " + lines.Quote(wood.Own(o.Trace[n-1].Path)) + " "
		}
		return "failed " + call + "code " + strconv.Itoa(int(o.Error))
	}
	return ""
}

// 25.1: grown jobs, against the second reading; and all that follows of each outcome by itself.
func TestGrown(t *testing.T) {
	chance := rand.New(rand.NewSource(2501)).Intn
	stops, denied, failed, wrong := map[api.StopKind]int{}, map[string]int{}, map[string]int{}, map[api.Errno]int{}
	for range 30000 {
		j := marsh.Job(chance)
		o := sandbox.Run(j)
		want := plainRun(j)
		if !sandbox.Same(o, want) || marsh.ShowOutcome(o) != marsh.ShowOutcome(want) {
			t.Fatalf("%s\n%s\nnot %s", marsh.ShowJob(j), marsh.ShowOutcome(o), marsh.ShowOutcome(want))
		}
		isConfined(t, j, o)
		isLogged(t, o)
		isBounded(t, j, o)
		wrong[o.Why]++
		stops[o.Stop]++
		words := strings.Fields(o.Message)
		switch {
		case o.Stop == api.StopDenied || o.Stop == api.StopExec:
			denied[words[1]+" "+words[len(words)-1]]++
		case o.Stop == api.StopFault:
			failed[words[1]]++
		}
	}
	for stop := api.StopNone; stop < api.StopCount; stop++ {
		if stops[stop] < 50 && stop != api.StopLimit {
			t.Error("too few stops:", stops)
		}
	}
	for _, x := range strings.Fields("read_path read_prefix read_link create_path create_prefix create_link rename_held exec_command") {
		if x = strings.Replace(x, "_", " ", 1); denied[x] < 20 {
			t.Error("too few denials:", x, denied)
		}
	}
	for _, x := range strings.Fields("lstat read create append rename code") {
		if failed[x] < 8 {
			t.Error("too few failures:", failed)
		}
	}
	if wrong[api.ErrLink] < 20 || wrong[api.ErrScript] < 20 || wrong[api.OK] < 20000 {
		t.Error("what is wrong with jobs:", wrong)
	}
}
