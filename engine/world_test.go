package engine_test

import (
	"math/rand"
	"slices"
	"strings"
	"testing"

	"paddock/api"
	"paddock/engine"
	"paddock/marsh"
	"paddock/rushes"
)

// watched is a World whose calls are told, and of which one call may fail.
type watched struct {
	engine.World
	calls []string
	done  []api.Effect
	fails int // the number of the call, among those that may
	why   api.Errno
	asked int
}

func watch(w engine.World) *watched { return &watched{World: w, fails: -1} }

// ask tells a call, and whether it is to fail.
func (x *watched) ask(call string) bool {
	x.calls = append(x.calls, call)
	x.asked++
	return x.asked-1 == x.fails
}

func (x *watched) Take() (api.Line, bool, api.Errno) {
	if x.ask("take") {
		return api.Line{Text: "wrong"}, true, x.why
	}
	return x.World.Take()
}

func (x *watched) Fresh() bool {
	x.calls = append(x.calls, "fresh")
	return x.World.Fresh()
}

func (x *watched) Passed() bool {
	x.calls = append(x.calls, "passed")
	return x.World.Passed()
}

func (x *watched) Put(e api.Effect) api.Errno {
	if x.ask("put " + e.Text) {
		return x.why
	}
	x.done = append(x.done, e)
	return x.World.Put(e)
}

func (x *watched) File(name string) (string, api.Errno) {
	if x.ask("file " + name) {
		return "wrong\n", x.why
	}
	return x.World.File(name)
}

func (x *watched) Exec(command string) api.Errno {
	x.calls = append(x.calls, "exec "+command)
	return x.why
}

// P20.2a: what is asked, in which order.
func TestCalls(t *testing.T) {
	for _, c := range []struct{ s, want string }{
		{"", "take fresh put a/ take fresh put b/ take passed"},
		{"#n\n", "take fresh take fresh take passed"},
		{"p", "take fresh put a/ put a/ take fresh put b/ put b/ take passed"},
		{"a x\nn", "take fresh put a/ put x/ take fresh put b/ take passed"},
		{"a x\nN", "take fresh put x/ take fresh put a/b/ take passed"},
		{"n;n", "take fresh put a/ take fresh put b/ take passed"},
		{"N;N", "take fresh take fresh put a/b/ take passed"},
		{"$!N;P;D", "take fresh take fresh put a/ put b/ take passed"},
		{"1r f\n1R g\n1r g", "take fresh put a/ file f put x/y/ file g file g take fresh put b/ take passed"},
		{"1R f\n2R f", "take fresh put a/ file f put x/ take fresh put b/ file f put y/ take passed"},
		{"r none\nd", "take fresh file none take fresh file none take passed"},
		{"r f\nq", "take fresh put a/ file f put x/y/"},
		{"r f\nQ", "take fresh"},
		{"w o\ne ls -l", "take fresh put a/ exec ls -l"},
		{"e", "take fresh exec "},
		{"s/a/rm &/epw o", "take fresh exec rm a"},
		{"s/b/rm &/ep", "take fresh put a/ take fresh exec rm b"},
	} {
		over := engine.Over(api.World{Inputs: marsh.Inputs("a\nb\n").Inputs, Others: []api.Text{{Name: "f", Data: "x\ny\n"}, {Name: "g"}}}, rushes.Read(t, c.s, false), false)
		for _, why := range []api.Errno{api.OK, api.ErrDenied, api.ErrFault} {
			w := watch(over)
			w.why = why
			m, no := engine.RunOver(rushes.Read(t, c.s, false), api.Options{}, much(), w)
			got := strings.ReplaceAll(strings.Join(w.calls, " "), "\n", "/")
			if no != api.OK || got != c.want || !slices.Equal(m.Effects, w.done) || strings.Contains(got, "exec") != (m.Stop == api.StopExec && m.Code == 3) {
				t.Errorf("%q: error %d, %s: %s", c.s, no, got, marsh.Show(m))
			}
			over = engine.Over(api.World{Inputs: marsh.Inputs("a\nb\n").Inputs, Others: []api.Text{{Name: "f", Data: "x\ny\n"}, {Name: "g"}}}, rushes.Read(t, c.s, false), false)
		}
	}
}

// P20.2b: Run is RunOver in Over; what a quota does not let is not asked for.
func TestRunOver(t *testing.T) {
	chance := rand.New(rand.NewSource(2021)).Intn
	for range 4000 {
		p, o, w := rushes.Read(t, marsh.Script(chance, 1+chance(8)), false), marsh.Options(chance), marsh.World(chance)
		q := api.Quota{Fuel: chance(80), Memory: chance(40), Output: chance(60), Each: chance(40)}
		want, why := engine.Run(p, o, w, q)
		x := watch(engine.Over(w, p, o.Separate || o.InPlace))
		got, no := engine.RunOver(p, o, q, x)
		if why != api.OK || no != api.OK || marsh.Show(got) != marsh.Show(want) || !slices.Equal(x.done, got.Effects) {
			t.Fatalf("%s\nerrors %d, %d: %s\nnot %s", rushes.Show(p), why, no, marsh.Show(got), marsh.Show(want))
		}
	}
}

// P20.2a, P20.10: a call that fails ends the run there; what was done till then is a front.
func TestFailing(t *testing.T) {
	chance := rand.New(rand.NewSource(2010)).Intn
	failed := map[string]int{}
	for range 1500 {
		p, o, w := rushes.Read(t, marsh.Script(chance, 1+chance(8)), false), marsh.Options(chance), marsh.World(chance)
		q := api.Quota{Fuel: chance(80), Memory: 60, Output: 200, Each: 100}
		whole := watch(engine.Over(w, p, o.Separate || o.InPlace))
		all, _ := engine.RunOver(p, o, q, whole)
		for k := range whole.asked {
			x := watch(engine.Over(w, p, o.Separate || o.InPlace))
			x.fails, x.why = k, []api.Errno{api.ErrDenied, api.ErrFault, api.ErrNoDir, api.ErrRange, 999, -1}[chance(6)]
			stop, code := api.StopFault, 5
			if x.why == api.ErrDenied {
				stop, code = api.StopDenied, 3
			}
			m, why := engine.RunOver(p, o, q, x)
			last := x.calls[len(x.calls)-1]
			failed[last[:4]]++
			if why != x.why || m.Stop != stop || m.Code != code || x.asked != k+1 || last == "fresh" || last == "passed" || !slices.Equal(m.Effects, x.done) || !isFront(m.Effects, all.Effects) || m.Cost > all.Cost || m.Steps > all.Steps || m.Peak > all.Peak {
				t.Fatalf("%s\ncall %d of %q fails by %d: error %d: %s\nof %s", rushes.Show(p), k, x.calls, x.why, why, marsh.Show(m), marsh.Show(all))
			}
		}
	}
	for _, call := range []string{"take", "put ", "file"} {
		if failed[call] < 300 {
			t.Error("only a few fail:", call, failed[call])
		}
	}
}

// P20.2a: ErrNoFile of File is no failure, of others it is.
func TestNoFile(t *testing.T) {
	p := rushes.Read(t, "r f\nR f", false)
	for k, c := range []struct {
		want string
		stop api.StopKind
		why  api.Errno
	}{{"", api.StopFault, api.ErrNoFile}, {"", api.StopFault, api.ErrNoFile}, {"a/x/", api.StopNone, api.OK}, {"a/", api.StopFault, api.ErrNoFile}, {"a/x/", api.StopNone, api.OK}} {
		x := watch(engine.Over(api.World{Inputs: marsh.Inputs("a\n").Inputs, Others: []api.Text{{Name: "f", Data: "x\n"}}}, p, false))
		x.fails, x.why = k, api.ErrNoFile
		m, why := engine.RunOver(p, api.Options{}, much(), x)
		if got := strings.ReplaceAll(text(m.Effects), "\n", "/"); got != c.want || m.Stop != c.stop || why != c.why {
			t.Errorf("call %d: error %d: %s", k, why, marsh.Show(m))
		}
	}
}

// text is all that effects put, wherever.
func text(l []api.Effect) string {
	var out strings.Builder
	for _, e := range l {
		out.WriteString(e.Text)
	}
	return out.String()
}

// P20.2b: Over by hand, call by call.
func TestOver(t *testing.T) {
	w := api.World{
		Inputs: []api.Text{{Name: "g", Gone: true}, {Name: "x", Data: "a\nb"}, {Name: "e"}, {Name: "h", Gone: true}, {Name: "x", Data: "c\n"}, {Name: "e"}},
		Others: []api.Text{{Name: "f", Data: "1\n2"}, {Name: "o", Data: "old"}, {Name: "n", Gone: true}, {Name: "/dev/stdout", Data: "s"}},
	}
	p := rushes.Read(t, "w o\nw n\nw u\nw /dev/stdout", false)
	for _, separate := range []bool{false, true} {
		x := engine.Over(w, p, separate)
		if x.Last() || x.Number() != 0 || x.Name() != "" || x.Fresh() || !x.Passed() {
			t.Error("at the beginning:", x.Last(), x.Number(), x.Name(), x.Fresh(), x.Passed())
		}
		for i, want := range []struct {
			line   api.Line
			number [2]int
			last   [2]bool
			fresh  [2]bool
		}{
			{api.Line{Text: "a", Whole: true}, [2]int{1, 1}, [2]bool{false, false}, [2]bool{false, false}},
			{api.Line{Text: "b"}, [2]int{2, 2}, [2]bool{false, true}, [2]bool{false, false}},
			{api.Line{Text: "c", Whole: true}, [2]int{3, 1}, [2]bool{true, true}, [2]bool{false, true}},
		} {
			k := 0
			if separate {
				k = 1
			}
			line, ok, why := x.Take()
			if line != want.line || !ok || why != api.OK || x.Number() != want.number[k] || x.Last() != want.last[k] || x.Fresh() != want.fresh[k] || x.Name() != "x" {
				t.Error(separate, i, line, ok, why, x.Number(), x.Last(), x.Fresh(), x.Name())
			}
		}
		for range 2 {
			if line, ok, why := x.Take(); line != (api.Line{}) || ok || why != api.OK || !x.Last() || x.Name() != "x" || !x.Passed() {
				t.Error("at the end:", line, ok, why, x.Last(), x.Name())
			}
		}
		if x.Exec("ls") != api.ErrDenied {
			t.Error("Exec")
		}
	}
	late := engine.Over(api.World{Inputs: []api.Text{{Name: "x", Data: "a\nb\n"}, {Name: "g", Gone: true}}}, p, false)
	for i, want := range []bool{false, false, true, true} {
		if late.Passed() != want {
			t.Error("Passed behind", i)
		}
		late.Take()
	}
}

// P20.2b: the files of Over: those that the program writes are empty at the beginning, and grow by what is put.
func TestOverFiles(t *testing.T) {
	w := api.World{Others: []api.Text{{Name: "f", Data: "1\n2"}, {Name: "o", Data: "old"}, {Name: "n", Gone: true}, {Name: "g", Gone: true}, {Name: "/dev/stdout", Data: "s"}}}
	x := engine.Over(w, rushes.Read(t, "w o\nw n\nw u\nw /dev/stdout", false), false)
	hold := func(when, name, want string, no api.Errno) {
		t.Helper()
		if got, why := x.File(name); got != want || why != no {
			t.Errorf("%s: %s has %q, error %d", when, name, got, why)
		}
	}
	for name, want := range map[string]string{"f": "1\n2", "o": "", "n": "", "u": "", "/dev/stdout": "s"} {
		hold("at the beginning", name, want, api.OK)
	}
	hold("at the beginning", "g", "", api.ErrNoFile)
	hold("at the beginning", "none", "", api.ErrNoFile)
	hold("at the beginning", "", "", api.ErrNoFile)
	for _, e := range []api.Effect{{Kind: api.EffectFile, Name: "o", Text: "a"}, {Kind: api.EffectOut, Text: "b"}, {Kind: api.EffectEdit, Name: "o", Text: "c"}, {Kind: api.EffectFile, Name: "o", Text: "d"}, {Kind: api.EffectFile, Name: "f", Text: "e"}, {Kind: api.EffectFile, Name: "g", Text: "h"}, {Kind: api.EffectFile, Name: "none", Text: ""}} {
		if why := x.Put(e); why != api.OK {
			t.Errorf("Put %v: error %d", e, why)
		}
	}
	for name, want := range map[string]string{"f": "1\n2e", "o": "ad", "n": "", "g": "h", "none": "", "/dev/stdout": "s"} {
		hold("then", name, want, api.OK)
	}
	if w.Others[0].Data != "1\n2" || w.Others[1].Data != "old" {
		t.Error("what was handed in has changed")
	}
}

// made is a World by hand: lines with all that is to be known of them.
type made struct {
	lines []fact
	taken int
}

type fact struct {
	text   string
	name   string
	number int
	last   bool
	fresh  bool
}

func (x *made) now() fact {
	if x.taken == 0 {
		return fact{}
	}
	return x.lines[x.taken-1]
}

func (x *made) Take() (api.Line, bool, api.Errno) {
	if x.taken == len(x.lines) {
		return api.Line{}, false, api.OK
	}
	x.taken++
	text, whole := strings.CutSuffix(x.now().text, "\n")
	return api.Line{Text: text, Whole: whole}, true, api.OK
}

func (x *made) Last() bool                      { return x.now().last }
func (x *made) Number() int                     { return x.now().number }
func (x *made) Name() string                    { return x.now().name }
func (x *made) Fresh() bool                     { return x.now().fresh }
func (x *made) Passed() bool                    { return false }
func (x *made) Put(api.Effect) api.Errno        { return api.OK }
func (x *made) File(string) (string, api.Errno) { return "1\n2\n3\n", api.OK }
func (x *made) Exec(string) api.Errno           { return api.OK }

// P20.2a: the run goes by what the World tells: names, numbers, the last line, fresh ones; whatever the options.
func TestMadeWorld(t *testing.T) {
	for _, c := range []struct {
		s     string
		o     api.Options
		lines []fact
		want  string
	}{
		{"=;F", api.Options{}, []fact{{text: "a\n", name: "x", number: 7}, {text: "b\n", name: "y", number: -3}}, "7/x/a/-3/y/b/"},
		{"$d;$!s/$/-/", api.Options{}, []fact{{text: "a\n", last: true}, {text: "b\n"}, {text: "c\n", last: true}}, "b-/"},
		{"N;N;s/\\n/-/g", api.Options{}, []fact{{text: "a\n"}, {text: "b\n"}}, ""},
		{"n;n", api.Options{}, []fact{{text: "a\n"}, {text: "b\n"}}, "a/b/"},
		{"R f", api.Options{}, []fact{{text: "a\n"}, {text: "b\n"}, {text: "c\n", fresh: true}}, "a/1/b/2/c/1/"},
		{"/a/,/x/d", api.Options{}, []fact{{text: "a\n"}, {text: "b\n"}, {text: "c\n", fresh: true}, {text: "d\n"}}, "c/d/"},
		{"0,/a/d", api.Options{}, []fact{{text: "a\n", number: 1}, {text: "b\n", number: 2}, {text: "c\n", number: 1, fresh: true}, {text: "d\n", number: 2}}, "b/"},
		{"", api.Options{InPlace: true}, []fact{{text: "a", name: "x"}, {text: "b", name: "x", fresh: true}, {text: "c", name: "y"}, {text: "d", name: "y"}}, "abc/d"},
		{"", api.Options{}, []fact{{text: "a", name: "x"}, {text: "b", name: "x", fresh: true}, {text: "c\nd", name: "y"}}, "a/b/c/d"},
	} {
		x := &made{lines: c.lines}
		m, why := engine.RunOver(rushes.Read(t, c.s, false), c.o, much(), x)
		if got := strings.ReplaceAll(text(m.Effects), "\n", "/"); why != api.OK || got != c.want || m.Stop != api.StopNone || m.Code != 0 {
			t.Errorf("%q: error %d: %q, %s", c.s, why, got, marsh.Show(m))
		}
	}
}
