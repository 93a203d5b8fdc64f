package program_test

import (
	"fmt"
	"maps"
	"math/rand"
	"slices"
	"strings"
	"testing"

	"paddock/api"
	"paddock/program"
	"paddock/reeds"
	"paddock/rushes"
	"paddock/script"
	"paddock/twigs"
)

// tos are the To of all steps.
func tos(p api.Program) string {
	var out []int
	for _, s := range p.Steps {
		out = append(out, s.To)
	}
	return fmt.Sprint(out)
}

// letters are the names of all steps, or commands.
func letters(s api.Script) string {
	var out []byte
	for _, c := range s.Commands {
		out = append(out, c.Name)
	}
	return string(out)
}

// labels are the texts of labels and of what goes to them.
func labels(s api.Script) string {
	var out []string
	for _, c := range s.Commands {
		if c.Name == ':' || isJump(c) {
			out = append(out, c.Text)
		}
	}
	return strings.Join(out, " ")
}

// The chapter's examples.
func TestExamples(t *testing.T) {
	s := reeds.Read(t, "1{p;b x;};d;:x;=", false)
	p, why, number := program.Make(s)
	if why != api.OK || number != 0 || letters(rushes.Bare(p)) != "{pbd=" || tos(p) != "[3 0 4 0 0]" || p.Steps[0].Command.First.N != 1 || p.Steps[2].Command.Text != "" {
		t.Error("Make:", why, number, rushes.Show(p))
	}
	back, why := program.Back(p, false)
	if want := reeds.Read(t, "1{p;b l1;};d;:l1;=", false); why != api.OK || !reeds.Same(back, want) {
		t.Error("Back:", why, reeds.Show(back))
	}
	for _, c := range []struct {
		step, to int
		why      api.Errno
		number   int
	}{{0, 2, api.OK, 0}, {0, 0, api.ErrProgram, 0}, {2, 9, api.ErrProgram, 2}} {
		q := rushes.Clone(p)
		q.Steps[c.step].To = c.to
		if why, number := program.Check(q, false); why != c.why || number != c.number {
			t.Error("Check:", c, why, number)
		}
	}
	for i, want := range map[int]string{0: "[1 3]", 2: "[4]", 3: "[5]", 9: "[]"} {
		if got := fmt.Sprint(program.Flow(p, i)); got != want {
			t.Errorf("Flow of %d: %s", i, got)
		}
	}
	for s, want := range map[string]string{"q": "[]", "1q": "[1]", "n": "[1]", "n;p": "[1 2]", "!p": "[1]"} {
		if got := fmt.Sprint(program.Flow(rushes.Read(t, s, false), 0)); got != want {
			t.Errorf("Flow of %s: %s", s, got)
		}
	}
}

// 15.1: where blocks and jumps go, and the names of files.
func TestMake(t *testing.T) {
	for _, c := range []struct{ text, letters, tos, files string }{
		{"", "", "[]", ""},
		{":a", "", "[]", ""},
		{"b", "b", "[1]", ""},
		{"b;p", "bp", "[2 0]", ""},
		{":a;ba", "b", "[0]", ""},
		{"ba;:a", "b", "[1]", ""},
		{"ta;Tb;:a;p;:b", "tTp", "[2 3 0]", ""},
		{":a;:b;p;tb;Ta;b", "ptTb", "[0 0 0 4]", ""},
		{"{}", "{", "[1]", ""},
		{"{{}}", "{{", "[2 2]", ""},
		{"{};{}", "{{", "[1 2]", ""},
		{"{p;{p;};p};p", "{p{ppp", "[5 0 4 0 0 0]", ""},
		{"{:a;};ba", "{b", "[1 1]", ""},
		{"{p;:a;};ba", "{pb", "[2 0 2]", ""},
		{"{};:a;ba", "{b", "[1 1]", ""},
		{"w x\n1{s/a/b/w y\n};W x\nr z\nw a", "w{sWrw", "[0 3 0 0 0 0]", "x y a"},
		{": a b \nta b ;b a b", "tb", "[0 0]", ""},
	} {
		s := reeds.Read(t, c.text, false)
		p, why, number := program.Make(s)
		if why != api.OK || number != 0 || letters(rushes.Bare(p)) != c.letters || tos(p) != c.tos || strings.Join(p.Files, " ") != c.files || p.Quiet {
			t.Errorf("Make of %q: error %d at %d, %s", c.text, why, number, rushes.Show(p))
		}
	}
	if p, _, _ := program.Make(reeds.Read(t, "#n\np", false)); !p.Quiet {
		t.Error("a quiet script's program is not quiet")
	}
}

// 15.1: scripts of all kinds.
func TestMakeGrown(t *testing.T) {
	chance := rand.New(rand.NewSource(1)).Intn
	wrongs := 0
	for i := range 6000 {
		s := reeds.Read(t, reeds.Grow(chance, chance(9)), i%2 == 0)
		if chance(3) == 0 {
			reeds.Spoil(chance, &s)
		}
		p, why, number := program.Make(s)
		if want, at := script.Check(s); want != api.OK {
			wrongs++
			if why != want || number != at || !rushes.Same(p, api.Program{}) {
				t.Fatalf("Make: error %d at %d, not %d at %d:\n%s", why, number, want, at, reeds.Show(s))
			}
			continue
		}
		want := made(s)
		if why != api.OK || number != 0 || !rushes.Same(p, want) || !slices.Equal(rushes.Places(p), rushes.Places(want)) {
			t.Fatalf("Make of\n%s\nis\n%s\nnot\n%s", reeds.Show(s), rushes.Show(p), rushes.Show(want))
		}
	}
	if wrongs < 500 {
		t.Error("wrong ones:", wrongs)
	}
}

// 15.1: a wrong script's error and number, none of its steps.
func TestMakeWrong(t *testing.T) {
	put := func(names string) api.Script {
		var s api.Script
		for i := range len(names) {
			s.Commands = append(s.Commands, api.Command{Name: names[i]})
		}
		return s
	}
	jump := put("pb")
	jump.Commands[1].Text = "x"
	long := put(strings.Repeat("p", api.MaxCommand+1))
	for i, c := range []struct {
		s      api.Script
		number int
	}{
		{put("k"), 0}, {put("pp}"), 2}, {put("p{p"), 1}, {put("{{}"), 0}, {jump, 1}, {long, api.MaxCommand}, {put(strings.Repeat("{", 65) + strings.Repeat("}", 65)), 64},
	} {
		p, why, number := program.Make(c.s)
		if why != api.ErrScript || number != c.number || !rushes.Same(p, api.Program{}) {
			t.Errorf("%d: error %d at %d, not at %d", i, why, number, c.number)
		}
	}
	for _, s := range []api.Script{put(strings.Repeat("p", api.MaxCommand)), put(strings.Repeat("{", 64) + strings.Repeat("}", 64))} {
		if p, why, number := program.Make(s); why != api.OK || number != 0 || !rushes.Same(p, made(s)) {
			t.Error("at a limit:", why, number)
		}
	}
}

// 15.3: labels by their numbers among the places, braces ahead of them.
func TestBack(t *testing.T) {
	for text, want := range map[string]string{
		"":                           "",
		":x":                         "",
		"b":                          "b",
		"bx;:x":                      "b",
		":x;bx":                      ":l1\nbl1",
		":x;:y;bx;ty":                ":l1\nbl1;tl1",
		":x;p;:y;=;:z;d;bz;ty;Tx;b":  ":l1\np\n:l2\n=\n:l3\nd;bl3;tl2;Tl1;b",
		"by;:x;p;:y;bx":              "bl2\n:l1\np\n:l2\nbl1",
		"{p;:x\n};p;bx":              "{p;};:l1\np;bl1",
		"{:x\n};p;bx":                "{};:l1\np;bl1",
		"{{:x\n{:y\n}}};p;tx;by":     "{{:l1\n{}}};:l2\np;tl1;bl2",
		"{{p\n};:x\n};p;bx":          "{{p};};:l1\np;bl1",
		"{p;:x\n};:y;{p;};bx;by":     "{p;};:l1\n{p;};bl1;bl1",
		"{};{};{p};":                 "{};{};{p}",
		"#n\n1!{w f\n};$,/x/Is//&/5": "#n\n1!{w f\n};$,/x/Is//&/5",
	} {
		p := rushes.Read(t, text, false)
		got, why := program.Back(p, false)
		if why != api.OK || !reeds.Same(got, reeds.Read(t, want, false)) {
			t.Errorf("Back of %q: error %d, %s", text, why, reeds.Show(got))
		}
	}
	var many []string
	for i := range 1500 {
		many = append(many, fmt.Sprintf(":x%d\nbx%d\n", i, 1499-i))
	}
	got, why := program.Back(rushes.Read(t, strings.Join(many, ""), false), false)
	if why != api.OK || got.Commands[2998].Text != "l1500" || got.Commands[1].Text != "l1500" || got.Commands[2999].Text != "l1" || got.Commands[200].Text != "l101" {
		t.Error("Back of many labels:", why, labels(got))
	}
}

// 15.3: programs of all kinds, with their places; the error is that of Check.
func TestBackGrown(t *testing.T) {
	chance := rand.New(rand.NewSource(2)).Intn
	g := rushes.NewGrower(t, chance)
	for i := range 6000 {
		p := g.Grow(chance(9))
		if chance(3) == 0 {
			g.Spoil(&p)
		}
		extended := i%2 == 0
		got, why := program.Back(p, extended)
		if fault(p, extended) >= 0 {
			if why != api.ErrProgram || !reeds.Same(got, api.Script{}) {
				t.Fatalf("Back: error %d, %s", why, reeds.Show(got))
			}
			continue
		}
		want := cameBack(p, extended)
		if why != api.OK || !reeds.Same(got, want) || !slices.Equal(reeds.Places(got), reeds.Places(want)) {
			t.Fatalf("Back of\n%s\nis\n%s\nnot\n%s", rushes.Show(p), reeds.Show(got), reeds.Show(want))
		}
	}
}

// 15.5: all letters, with and without addresses.
func TestFlowLetters(t *testing.T) {
	kinds := []api.AddrKind{api.AddrNone, api.AddrLine, api.AddrLast, api.AddrRegex, api.AddrStep, api.AddrPlus, api.AddrCount, 255}
	for name := range 256 {
		for _, first := range kinds {
			for _, second := range []api.AddrKind{api.AddrNone, api.AddrLast} {
				for _, not := range []bool{false, true} {
					for _, to := range []int{0, 1, 2, 3, 4, 5, 6, -7, 1 << 40} {
						c := api.Command{Name: byte(name), First: api.Addr{Kind: first}, Second: api.Addr{Kind: second}, Not: not}
						p := api.Program{Steps: make([]api.Step, 5)}
						for i := range p.Steps {
							p.Steps[i] = api.Step{Command: c, To: to}
						}
						for i := range p.Steps {
							want := slices.Sorted(maps.Keys(flow(p, i)))
							if got := program.Flow(p, i); !slices.Equal(got, want) {
								t.Fatalf("Flow of %s to %d at %d: %v, not %v", reeds.ShowCommand(c), to, i, got, want)
							}
						}
					}
				}
			}
		}
	}
}

// 15.5: told one by one.
func TestFlow(t *testing.T) {
	for text, want := range map[string]string{
		"p": "[1]", "1p": "[1]", "!p": "[1]", "1!p": "[1]",
		"d": "[3]", "1d": "[1 3]", "!d": "[1]", "D": "[3]", "1!D": "[1 3]", "c\\\nx": "[3]", "1,2c\\\nx": "[1 3]",
		"q": "[]", "1q": "[1]", "!q": "[1]", "Q": "[]", "$!Q": "[1]",
		"n": "[1 3]", "1n": "[1 3]", "!n": "[1]", "N": "[1 3]", "!N": "[1]",
		"b": "[3]", "1b": "[1 3]", "!b": "[1]", "t": "[1 3]", "T": "[1 3]", "1t": "[1 3]", "!t": "[1]", "!T": "[1]",
		":a;ba": "[0]", ":a;1ba": "[0 1]", ":a;ta": "[0 1]", ":a;!ta": "[1]", "bb;:b": "[1]", "tb;:b": "[1]",
		"{}": "[1]", "1{}": "[1]", "!{}": "[1]", "{n\n}": "[1]", "1{n\n}": "[1 2]", "1!{n\n}": "[1 2]", "!{n\n}": "[2]",
		"s/a/b/": "[1]", "s/a/b/e": "[1]", "e": "[1]", "e ls": "[1]", "w f": "[1]", "y/a/b/": "[1]", "z": "[1]", "i\\\nx": "[1]", "a\\\nx": "[1]", "F": "[1]", "g": "[1]",
	} {
		s := rushes.Read(t, text, false)
		rest := rushes.Read(t, text+"\np;p", false)
		if len(s.Steps) == 2 {
			rest = rushes.Read(t, text+"\np", false)
		}
		if len(rest.Steps) != 3 {
			t.Fatal(text)
		}
		if got := fmt.Sprint(program.Flow(rest, 0)); got != want {
			t.Errorf("Flow of %q: %s, not %s", text, got, want)
		}
	}
	p := rushes.Read(t, "1d;1b;n", false)
	for i, want := range map[int]string{-1 << 63: "[]", -1: "[]", 0: "[1 3]", 1: "[2 3]", 2: "[3]", 3: "[]", 4: "[]", 1<<63 - 1: "[]"} {
		if got := fmt.Sprint(program.Flow(p, i)); got != want {
			t.Errorf("Flow of step %d: %s", i, got)
		}
	}
	if got := program.Flow(api.Program{}, 0); len(got) != 0 {
		t.Error("Flow of nothing:", got)
	}
}

// P1: hand-made programs of all kinds end every call.
func TestHandMade(t *testing.T) {
	deep := twigs.Nest(60000, twigs.Of("a"), func(_ int, n api.Node) api.Node { return twigs.Repeat(1, 1, n) })
	wide := twigs.Cat(slices.Repeat([]api.Node{twigs.Of("a")}, 100000)...)
	for _, root := range []api.Node{deep, wide, {Kind: 255}} {
		regex := api.Regex{Text: "a", Root: root}
		p := api.Program{Steps: []api.Step{{Command: api.Command{Name: 's', Regex: regex}}, {Command: api.Command{Name: 'p', First: api.Addr{Kind: api.AddrRegex, Regex: regex}}}}}
		if why, at := program.Check(p, true); why != api.ErrProgram || at != 0 {
			t.Error("Check:", why, at)
		}
		p.Steps[0] = api.Step{Command: api.Command{Name: 'p'}}
		if why, at := program.Check(p, false); why != api.ErrProgram || at != 1 {
			t.Error("Check:", why, at)
		}
		if s, why := program.Back(p, false); why != api.ErrProgram || len(s.Commands) != 0 {
			t.Error("Back:", why)
		}
		if q := program.Copy(p); !program.Same(p, q) {
			t.Error("Copy is not the same")
		}
	}
	for _, p := range []api.Program{{}, {Steps: []api.Step{}, Files: []string{}}, {Quiet: true}} {
		if why, at := program.Check(p, true); why != api.OK || at != 0 {
			t.Error("no steps:", why, at)
		}
		s, why := program.Back(p, true)
		if why != api.OK || len(s.Commands) != 0 || !s.Extended || s.Quiet != p.Quiet {
			t.Error("Back of no steps:", why, s)
		}
	}
}
