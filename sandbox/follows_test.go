package sandbox_test

import (
	"math/rand"
	"regexp"
	"slices"
	"strings"
	"testing"

	"paddock/api"
	"paddock/audit"
	"paddock/engine"
	"paddock/marsh"
	"paddock/paths"
	"paddock/sandbox"
	"paddock/spec"
	"paddock/vfs"
	"paddock/wood"
)

// again does a call once more.
func again(f *vfs.Fs, c api.Call) api.Errno {
	var why api.Errno
	switch c.Kind {
	case api.CallLstat:
		_, why = f.Lstat(c.Path)
	case api.CallRead:
		_, why = f.Read(c.Path)
	case api.CallCreate:
		why = f.Create(c.Path)
	case api.CallAppend:
		why = f.Append(c.Path, "")
	case api.CallRename:
		why = f.Rename(c.Path, c.To)
	}
	return why
}

// overLink tells whether a link stands at one of a path's first names; all of them too, if whole.
func overLink(table map[string]wood.Thing, p api.Path, whole bool) bool {
	for n := 1; n <= len(p); n++ {
		if (n < len(p) || whole) && table[wood.Own(p[:n])].Kind == api.FileLink {
			return true
		}
	}
	return false
}

// isConfined is 25.4.
func isConfined(t *testing.T, j api.Job, o api.Outcome) {
	t.Helper()
	if ok, at := audit.Confined(o.Trace, j.Policy.Read, j.Policy.Write); !ok {
		t.Fatalf("%s\n25.4: call %d of %s", marsh.ShowJob(j), at, calls(o))
	}
	f, _ := vfs.New(j.Tree, j.Faults)
	for i, c := range o.Trace {
		table := wood.Table(f.Tree())
		if !paths.Right(c.Path) || overLink(table, c.Path, c.Kind != api.CallLstat) || overLink(table, c.To, true) {
			t.Fatalf("%s\n25.4: call %d, %s, leads over a link", marsh.ShowJob(j), i, marsh.ShowCall(c))
		}
		if why := again(f, c); why != c.Why {
			t.Fatalf("%s\ncall %d, %s, answers %d", marsh.ShowJob(j), i, marsh.ShowCall(c), why)
		}
	}
	if o.Why != api.OK {
		return
	}
	before, after := wood.Table(j.Tree), wood.Table(o.Tree)
	for _, table := range []map[string]wood.Thing{before, after} {
		for at := range table {
			p := api.Path(strings.Split(at, "/")[1:])
			if at == "" {
				p = nil
			}
			if before[at] != after[at] && !paths.Inside(j.Policy.Write, p) {
				t.Fatalf("%s\n25.4: %s has changed", marsh.ShowJob(j), at)
			}
		}
	}
}

// isLogged is 25.5.
func isLogged(t *testing.T, o api.Outcome) {
	t.Helper()
	denials := audit.Denials(o.Log)
	trace := audit.Trace(o.Log)
	same := slices.EqualFunc(trace, o.Trace, func(a, b api.Call) bool { return marsh.ShowCall(a) == marsh.ShowCall(b) && a.Kind == b.Kind })
	if !same || len(denials) > 1 || len(denials) == 1 && o.Log[len(o.Log)-1].Deny == api.DenyNone {
		t.Fatalf("25.5: %s", marsh.ShowOutcome(o))
	}
	if (len(denials) == 1) != (o.Stop == api.StopDenied || o.Stop == api.StopExec) {
		t.Fatalf("25.5: a denial does not end a run, or none does: %s", marsh.ShowOutcome(o))
	}
	if s, why := audit.Print(o.Log); why != api.OK || strings.Count(s, "\n") != len(o.Log) {
		t.Fatalf("25.5: no log: %s", marsh.ShowOutcome(o))
	}
}

// isBounded is 25.6.
func isBounded(t *testing.T, j api.Job, o api.Outcome) {
	t.Helper()
	p := j.Policy
	most := p.Output
	if j.Options.InPlace {
		most += p.Each
	}
	if o.Cost > p.Fuel || o.Steps > o.Cost || o.Peak > p.Memory || len(o.Out) > most {
		t.Fatalf("%s\n25.6: %s", marsh.ShowJob(j), marsh.ShowOutcome(o))
	}
	before := wood.Table(j.Tree)
	for at, x := range wood.Table(o.Tree) {
		if !j.Options.InPlace && x.Kind == api.FileText && before[at] != x && len(x.Data) > p.Each {
			t.Fatalf("%s\n25.6: %s has %q", marsh.ShowJob(j), at, x.Data)
		}
	}
}

// plenty is a quota that is enough for most jobs here, and that no job here is above.
const plenty = 500

// free is the same job where the policy allows all, and enough, and no call fails.
func free(j api.Job) api.Job {
	j.Policy, j.Faults = marsh.Within(wood.Paths("/"), wood.Paths("/"), plenty), nil
	return j
}

// named are the files that grown scripts name.
var named = regexp.MustCompile(`(?m)([rRwW]) (f|g|o|u|none)$`)

// grownFree is a job by chance that the words of 25.7 speak of, and the world that it is in chapter 19; the names of both scripts are those of one another.
func grownFree(chance func(int) int) (api.Job, string, api.World) {
	s := marsh.Script(chance, 1+chance(8))
	j := api.Job{Options: marsh.Options(chance), Input: marsh.Lines(chance), Tree: wood.Root(), Policy: marsh.Within(wood.Paths("/"), wood.Paths("/"), plenty)}
	if j.Options.InPlace {
		j.Options.Suffix = []string{"", "~", "*.old"}[chance(3)]
	}
	var w api.World
	dev := wood.Dir("dev")
	if chance(2) == 0 {
		dev.Files = []api.File{wood.Text("stdout", marsh.Lines(chance))}
		w.Others = append(w.Others, api.Text{Name: "/dev/stdout", Data: dev.Files[0].Data})
	}
	j.Tree.Files = append(j.Tree.Files, wood.Dir("d"), dev)
	for _, name := range []string{"f", "g", "in0", "in1", "in2", "in3", "o", "u"} {
		if chance(4) > 0 {
			j.Tree.Files = append(j.Tree.Files, wood.Text(name, marsh.Lines(chance)))
			w.Others = append(w.Others, api.Text{Name: "/" + name, Data: j.Tree.Files[len(j.Tree.Files)-1].Data})
		}
	}
	table := wood.Table(j.Tree)
	for _, name := range []string{"in0", "-", "in1", "/in2", "./d/../in3", "in0", "-"}[:chance(6)] {
		if chance(4) == 0 {
			continue
		}
		j.Names = append(j.Names, name)
		at, _ := own(name)
		x := api.Text{Name: name, Data: table[at].Data, Gone: table[at].Kind == api.FileNone}
		if name == "-" {
			x = api.Text{Name: name, Data: j.Input}
		}
		w.Inputs = append(w.Inputs, x)
	}
	if len(j.Names) == 0 {
		w.Inputs = []api.Text{{Name: "-", Data: j.Input}}
	}
	j.Script = named.ReplaceAllStringFunc(s, func(x string) string {
		return x[:2] + []string{"", "./", "/", "d/../", "../", ".//"}[chance(6)] + x[2:]
	})
	return j, named.ReplaceAllString(s, "$1 /$2"), w
}

// becomes is what a world's run leaves of a job: the standard output, the texts of its tree by their paths, and the names of the inputs that are edited.
func becomes(j api.Job, p api.Program, l []api.Effect) (string, map[string]wood.Thing, []string) {
	out, table := "", wood.Table(j.Tree)
	for _, name := range p.Files {
		if name != "/dev/stdout" {
			table[name] = wood.Thing{Kind: api.FileText}
		}
	}
	var names []string
	for _, e := range l {
		switch {
		case e.Kind == api.EffectFile:
			table[e.Name] = wood.Thing{Kind: api.FileText, Data: table[e.Name].Data + e.Text}
		case e.Kind == api.EffectEdit && e.Name != "-":
			if !slices.Contains(names, e.Name) {
				names = append(names, e.Name)
				edit(j, table, e.Name)
			}
			at, _ := own(e.Name)
			table[at] = wood.Thing{Kind: api.FileText, Data: table[at].Data + e.Text}
		default:
			out += e.Text
		}
	}
	return out, table, names
}

// edit makes an input empty, and keeps a copy, if the job asks for one.
func edit(j api.Job, table map[string]wood.Thing, name string) {
	at, _ := own(name)
	if to, _ := copyOf(at, j.Options.Suffix); to != "" {
		table[to] = table[at]
	}
	table[at] = wood.Thing{Kind: api.FileText}
}

// 25.7, P8: as it is meant.
func TestAsItIsMeant(t *testing.T) {
	chance := rand.New(rand.NewSource(257)).Intn
	stops, edited := map[api.StopKind]int{}, 0
	for range 15000 {
		j, s, w := grownFree(chance)
		plain := j
		plain.Script = s
		p, why, _ := plainProgram(plain)
		if why != api.OK {
			t.Fatalf("no script: %q", s)
		}
		enough, _ := engine.Run(p, j.Options, w, api.Quota{Fuel: plenty, Memory: plenty, Output: plenty, Each: plenty})
		o := sandbox.Run(j)
		if j.Options.InPlace && mixes(j, p) {
			continue
		}
		if stops[enough.Stop]++; enough.Stop > api.StopQuit {
			if o.Stop != enough.Stop || o.Code != enough.Code || o.Steps != enough.Steps || o.Cost != enough.Cost || o.Peak != enough.Peak {
				t.Fatalf("%s\n%s\nnot %s", marsh.ShowJob(j), marsh.ShowOutcome(o), marsh.Show(enough))
			}
			continue
		}
		m, _ := spec.Run(p, j.Options, w, plenty)
		out, table, names := becomes(j, p, m.Effects)
		if o.Out != out || o.Code != m.Code || o.Stop != m.Stop || o.Steps != m.Steps || o.Cost != m.Cost || o.Peak != m.Peak || o.Error != api.OK || o.Message != "" {
			t.Fatalf("%s\n25.7: %s\nnot %q; %s", marsh.ShowJob(j), marsh.ShowOutcome(o), out, marsh.Show(m))
		}
		got := wood.Table(o.Tree)
		for _, name := range j.Names {
			at, _ := own(name)
			// without an effect: a line of it was taken, and it becomes empty, or none was
			if j.Options.InPlace && name != "-" && !slices.Contains(names, name) && table[at].Data != "" && got[at].Data == "" {
				edit(j, table, name)
			}
		}
		if !wood.SameTable(got, table) {
			t.Fatalf("%s\n25.7: the tree is %v, not %v", marsh.ShowJob(j), got, table)
		}
		if len(names) > 0 && j.Options.Suffix != "" {
			edited++
		}
	}
	if stops[api.StopNone] < 3000 || stops[api.StopQuit] < 500 || stops[api.StopExec] < 100 || stops[api.StopFuel] < 100 || edited < 500 {
		t.Error("too few:", stops, edited)
	}
}

// isFront tells whether what a run has done is a front of what another one has: the standard output, and the texts that it has made anew to be written to.
func isFront(j api.Job, o, all api.Outcome, p api.Program) bool {
	got, whole := wood.Table(o.Tree), wood.Table(all.Tree)
	for _, c := range o.Trace {
		at := wood.Own(c.Path)
		if c.Kind == api.CallCreate && c.Why == api.OK && slices.Contains(p.Files, at) && !strings.HasPrefix(whole[at].Data, got[at].Data) {
			return false
		}
	}
	return strings.HasPrefix(all.Out, o.Out) && o.Steps <= all.Steps && o.Cost <= all.Cost && o.Peak <= all.Peak
}

// mixes tells whether an input of a job, a temporary file of it, or a copy, is written by its program too, or is another input.
func mixes(j api.Job, p api.Program) bool {
	seen := slices.Clone(p.Files)
	for _, name := range j.Names {
		at, ok := own(name)
		if name == "-" || !ok {
			continue
		}
		to, _ := copyOf(at, j.Options.Suffix)
		for _, x := range []string{at, at + ".paddock~", to} {
			if slices.Contains(seen, x) {
				return true
			}
			if x != "" {
				seen = append(seen, x)
			}
		}
	}
	return false
}

// 25.8, P9: with any policy, and any call failing, a run has done a front of what it does with one that allows all, and enough. 25.9, P10: each input has what it had, or what it becomes.
func TestFronts(t *testing.T) {
	chance := rand.New(rand.NewSource(258)).Intn
	fronts, kept, made := 0, 0, 0
	for range 20000 {
		j := marsh.Job(chance)
		p, why, _ := plainProgram(j)
		o, all := sandbox.Run(j), sandbox.Run(free(j))
		if why != api.OK || o.Why != api.OK || j.Options.InPlace && mixes(j, p) {
			continue
		}
		if !isFront(j, o, all, p) {
			t.Fatalf("%s\n25.8: %s\nof %s", marsh.ShowJob(j), marsh.ShowOutcome(o), marsh.ShowOutcome(all))
		}
		if o.Stop != all.Stop && o.Out+wood.Texts(o.Tree) != all.Out+wood.Texts(all.Tree) {
			fronts++
		}
		if !j.Options.InPlace || mixes(j, p) {
			continue
		}
		was, is, will := wood.Table(j.Tree), wood.Table(o.Tree), wood.Table(all.Tree)
		for _, name := range j.Names {
			at, _ := own(name)
			switch is[at] {
			case was[at]:
				kept++
			case will[at]:
				made++
			default:
				t.Fatalf("%s\n25.9: %s has %v, not %v or %v", marsh.ShowJob(j), at, is[at], was[at], will[at])
			}
		}
	}
	if fronts < 1000 || kept < 1000 || made < 200 {
		t.Error("too few:", fronts, kept, made)
	}
}

// 25.8, 25.9: each call of a run failing in turn, and each number of steps.
func TestEveryEnd(t *testing.T) {
	chance := rand.New(rand.NewSource(259)).Intn
	for range 300 {
		j, _, _ := grownFree(chance)
		p, why, _ := plainProgram(j)
		if why != api.OK || mixes(j, p) {
			continue
		}
		all := sandbox.Run(free(j))
		was, will := wood.Table(j.Tree), wood.Table(all.Tree)
		ends := func(o api.Outcome, stop api.StopKind, code int) {
			if o.Stop != stop || o.Code != code || !isFront(j, o, all, p) {
				t.Fatalf("%s\n25.8: %s\nof %s", marsh.ShowJob(j), marsh.ShowOutcome(o), marsh.ShowOutcome(all))
			}
			is := wood.Table(o.Tree)
			for _, name := range j.Names {
				if at, _ := own(name); is[at] != was[at] && is[at] != will[at] {
					t.Fatalf("%s\n25.9: %s has %v, not %v or %v", marsh.ShowJob(j), at, is[at], was[at], will[at])
				}
			}
		}
		for k := range min(len(all.Trace), 100) {
			little := free(j)
			little.Faults = []int{k}
			o := sandbox.Run(little)
			ends(o, api.StopFault, 5)
			if len(o.Trace) != k+1 || o.Trace[k].Why != api.ErrFault || o.Message != "failed "+[]string{"", "lstat", "read", "create", "append", "rename"}[o.Trace[k].Kind]+` "`+wood.Own(o.Trace[k].Path)+`" code 42` {
				t.Fatalf("%s\nfault %d: %s", marsh.ShowJob(j), k, marsh.ShowOutcome(o))
			}
		}
		for fuel := range min(all.Cost, 60) {
			little := free(j)
			little.Policy.Fuel = fuel
			ends(sandbox.Run(little), api.StopFuel, 4)
		}
	}
}

// 25.10: of a script that has a flaw nothing is done, wherever it is; what stands ahead of it would do something.
func TestFlaws(t *testing.T) {
	for s, message := range map[string]string{
		"w d/o\nk": "script byte 6 rule 1", "w d/o\np;q 256": "script byte 10 rule 18", "w d/o\n{p": "script byte 6 rule 8", "w d/o\nb x": "script byte 6 rule 11",
		"w d/o\n:a\n:a": "script byte 9 rule 10", "w d/o\ns/\\(/b/": "script byte 8 rule 3", "e ls\ny/a/bc/": "script byte 5 rule 17", "w d/o\nw": "script byte 7 rule 13",
	} {
		for _, suffix := range []string{"", "~"} {
			j := inPlace(small(s, "d/f"), suffix)
			j.Policy.Fuel = 0
			o := sandbox.Run(j)
			if o.Why != api.ErrScript || o.Message != message || o.Code != 1 || !sandbox.Same(o, api.Outcome{Why: o.Why, Flaw: o.Flaw, Code: 1, Message: message}) {
				t.Errorf("%q: %s", s, marsh.ShowOutcome(o))
			}
		}
	}
}
