package program_test

import (
	"fmt"
	"math/rand"
	"slices"
	"strings"
	"testing"

	"paddock/api"
	"paddock/program"
	"paddock/reeds"
	"paddock/rushes"
)

// told says what Check tells of a program: the number of what is at fault, -1 if nothing is.
func told(t *testing.T, p api.Program, extended bool) int {
	t.Helper()
	why, number := program.Check(p, extended)
	if why == api.OK && number == 0 {
		return -1
	}
	if why != api.ErrProgram {
		t.Fatalf("error %d at %d", why, number)
	}
	return number
}

// 15.2: programs with changes here and there; right is what is of a script.
func TestCheckSpoilt(t *testing.T) {
	chance := rand.New(rand.NewSource(3)).Intn
	g := rushes.NewGrower(t, chance)
	seen := map[string]int{}
	for i := range 15000 {
		p := g.Grow(chance(8))
		for range chance(4) {
			g.Spoil(&p)
		}
		extended := i%2 == 0
		want := fault(p, extended)
		if got := told(t, p, extended); got != want {
			t.Fatalf("Check is %d, not %d:\n%s", got, want, rushes.Show(p))
		}
		if isOfScript(p, extended) != (want < 0) {
			t.Fatalf("%d, but of a script:\n%s", want, rushes.Show(p))
		}
		switch {
		case want < 0:
			seen["right"]++
		case want == len(p.Steps):
			seen["whole"]++
		default:
			seen[string(rune(p.Steps[want].Command.Name))]++
		}
	}
	for _, s := range []string{"right", "whole", "{", "b", "t", "T", "p", ":", "}"} {
		if seen[s] < 50 {
			t.Errorf("%s: %d times", s, seen[s])
		}
	}
}

// 15.2: scripts' own programs, of which a step is spoilt as scripts are.
func TestCheckScripts(t *testing.T) {
	chance := rand.New(rand.NewSource(4)).Intn
	g := rushes.NewGrower(t, chance)
	for i := range 4000 {
		extended := i%2 == 0
		p := rushes.Read(t, reeds.Grow(chance, chance(8)), extended)
		if got := told(t, p, extended); got >= 0 {
			t.Fatalf("Check of what Make made: %d\n%s", got, rushes.Show(p))
		}
		g.Spoil(&p)
		if got, want := told(t, p, extended), fault(p, extended); got != want {
			t.Fatalf("Check is %d, not %d:\n%s", got, want, rushes.Show(p))
		}
	}
}

// 15.2: all ways in which two blocks and a jump may stand.
func TestCheckBlocks(t *testing.T) {
	step := func(name byte, to int) api.Step { return api.Step{Command: api.Command{Name: name}, To: to} }
	rights := 0
	for a := -1; a <= 5; a++ {
		for b := -1; b <= 5; b++ {
			for c := -1; c <= 5; c++ {
				for _, names := range []string{"{{{p", "{{p{", "{p{{", "p{{{", "{{bp", "b{{p", "{t{p", "{{pT"} {
					var p api.Program
					left := []int{a, b, c}
					for i := range len(names) {
						if names[i] == 'p' {
							p.Steps = append(p.Steps, step('p', 0))
							continue
						}
						p.Steps = append(p.Steps, step(names[i], left[0]))
						left = left[1:]
					}
					want := fault(p, false)
					if got := told(t, p, false); got != want || isOfScript(p, false) != (want < 0) {
						t.Fatalf("Check is %d, not %d:\n%s", got, want, rushes.Show(p))
					}
					if want < 0 {
						rights++
					}
				}
			}
		}
	}
	if rights < 100 {
		t.Error("right ones:", rights)
	}
}

// 15.2: To of all letters.
func TestCheckTo(t *testing.T) {
	for _, text := range strings.Split("=|d|D|F|g|G|h|H|n|N|p|P|x|z|l|q|Q|a\\\nx|i\\\nx|c\\\nx|r f|R f|e ls|y/a/b/|s/a/b/|1p|b|t|T|1b|{}|1{}", "|") {
		whole := rushes.Read(t, "p\n"+text+"\np;p", false)
		for to := -2; to <= 6; to++ {
			whole.Steps[1].To = to
			want := to == 0
			switch whole.Steps[1].Command.Name {
			case 'b', 't', 'T':
				want = to >= 0 && to <= 4
			case '{':
				want = to >= 2 && to <= 4
			}
			if got := told(t, whole, false); (got < 0) != want || got >= 0 && got != 1 {
				t.Errorf("%q to %d: %d", text, to, got)
			}
		}
	}
}

// 15.2: commands that may be no steps, or are not right by themselves, wherever they stand.
func TestCheckCommands(t *testing.T) {
	root := reeds.Read(t, "/(a)/p", false).Commands[0].First.Regex.Root
	for i, c := range []api.Command{
		{Name: ':', Text: "a"}, {Name: '}'}, {Name: ':'}, {Name: 'k'}, {}, {Name: '#'},
		{Name: 'b', Text: "a"}, {Name: 't', Text: "a"}, {Name: 'T', Text: "l1"}, {Name: 'b', Text: " "},
		{Name: 'p', At: -1}, {Name: 'p', Text: "x"}, {Name: 'p', N: 1}, {Name: '{', Text: "x"}, {Name: '{', At: -1}, {Name: '{', N: 1},
		{Name: 'q', N: 256}, {Name: 'l', N: -2}, {Name: 'a', Text: "\n"}, {Name: 'w'}, {Name: 'r', Text: " x"}, {Name: 'y', Text: "a"}, {Name: 's'},
		{Name: 'p', First: api.Addr{Kind: api.AddrLine}}, {Name: 'p', Second: api.Addr{Kind: api.AddrLine}}, {Name: '{', First: api.Addr{Kind: api.AddrPlus}},
		{Name: 'q', First: api.Addr{Kind: api.AddrLast}, Second: api.Addr{Kind: api.AddrLast}},
		{Name: 'p', First: api.Addr{Kind: api.AddrRegex, Regex: api.Regex{Text: "a", Root: root}}},
	} {
		for _, ahead := range []string{"", "p", "{p\n}", "1{{};p\n};b", "p;{{p\n}}"} {
			p := rushes.Read(t, ahead, false)
			n := len(p.Steps)
			to := 0
			switch c.Name {
			case '{':
				to = n + 1
			case 'b', 't', 'T':
				to = n + 2
			}
			p.Steps = append(p.Steps, api.Step{Command: c, To: to}, api.Step{Command: api.Command{Name: 'p'}}, api.Step{Command: api.Command{Name: 'k'}}, api.Step{Command: api.Command{Name: 'p'}, To: 1})
			if got := told(t, p, false); got != n {
				t.Errorf("%d behind %q: %d", i, ahead, got)
			}
		}
	}
	// of a step at fault in several ways, and of several steps, the first one
	p := rushes.Read(t, "p;p;p", false)
	p.Files = []string{"x"}
	if got := told(t, p, false); got != 3 {
		t.Error("Files alone:", got)
	}
	p.Steps[2].To = 7
	if got := told(t, p, false); got != 2 {
		t.Error("To ahead of Files:", got)
	}
	p.Steps[1].Command.Text = "x"
	if got := told(t, p, false); got != 1 {
		t.Error("a command ahead of To:", got)
	}
	p.Steps[0].To = -1
	if got := told(t, p, false); got != 0 {
		t.Error("To ahead of a command:", got)
	}
}

// 15.2: right for extended expressions or not.
func TestCheckExtended(t *testing.T) {
	for _, s := range []string{"/(a)/p", "p;s/a+/b/", "p;1{p;2,/a|b/d\n}"} {
		for _, extended := range []bool{false, true} {
			p := rushes.Read(t, s, extended)
			if got := told(t, p, extended); got >= 0 {
				t.Errorf("%q: %d", s, got)
			}
			want := slices.IndexFunc(p.Steps, func(s api.Step) bool {
				return s.Command.Regex.Text+s.Command.First.Regex.Text+s.Command.Second.Regex.Text != ""
			})
			if got := told(t, p, !extended); got != want {
				t.Errorf("%q of the other kind: %d, not %d", s, got, want)
			}
			if s, why := program.Back(p, !extended); why != api.ErrProgram || len(s.Commands) != 0 {
				t.Errorf("Back of the other kind: %d", why)
			}
			if s, why := program.Back(p, extended); why != api.OK || s.Extended != extended {
				t.Errorf("Back: %d", why)
			}
		}
	}
}

// 15.2: Files, in their order, each once.
func TestCheckFiles(t *testing.T) {
	p := rushes.Read(t, "w b\nW a\ns/x/y/w c\nw b\nr d\nR e\n1{w a\n}", false)
	if got := told(t, p, false); got >= 0 || !slices.Equal(p.Files, []string{"b", "a", "c"}) {
		t.Error("right ones:", got, p.Files)
	}
	for _, l := range [][]string{nil, {"a", "b", "c"}, {"b", "a"}, {"b", "a", "c", "b"}, {"b", "a", "c", "d"}, {"b", "a", "c", ""}, {"", "b", "a", "c"}, {"b", "a", "C"}, {"a", "c"}} {
		p.Files = l
		if got := told(t, p, false); got != len(p.Steps) {
			t.Errorf("Files %q: %d", l, got)
		}
	}
	for _, l := range [][]string{nil, {}} {
		p := rushes.Read(t, "p;s/a/b/", false)
		p.Files = l
		if got := told(t, p, false); got >= 0 {
			t.Errorf("Files %#v: %d", l, got)
		}
	}
}

// repeated is a program of some steps again and again, as blocks and jumps of their own; right.
func repeated(one api.Step, times int) api.Program {
	var p api.Program
	for i := range times {
		s := one
		switch s.Command.Name {
		case '{':
			s.To += i
		case 'b', 't', 'T':
			s.To += i
		}
		p.Steps = append(p.Steps, s)
	}
	return p
}

// 15.2: MaxCommand, with what comes back beside the steps: at it, and one past it.
func TestCheckMany(t *testing.T) {
	plain := api.Step{Command: api.Command{Name: 'p'}}
	block := api.Step{Command: api.Command{Name: '{'}, To: 1}
	loop := api.Step{Command: api.Command{Name: 'b'}}
	all := func(l ...api.Program) api.Program {
		var out api.Program
		for _, p := range l {
			n := len(out.Steps)
			for _, s := range p.Steps {
				if s.Command.Name != 'p' {
					s.To += n
				}
				out.Steps = append(out.Steps, s)
			}
		}
		return out
	}
	end := func(p api.Program) api.Program { // jumps to the end need no label
		for i := range p.Steps {
			p.Steps[i].To = len(p.Steps)
		}
		return p
	}
	one := func(p api.Program) api.Program { // and such to one place need one
		for i := range p.Steps {
			p.Steps[i].To = 7
		}
		return p
	}
	for i, c := range []struct {
		p     api.Program
		right bool
	}{
		{repeated(plain, 4096), true}, {repeated(plain, 4097), false}, {repeated(plain, 9000), false},
		{repeated(block, 2048), true}, {repeated(block, 2049), false}, {repeated(block, 4096), false},
		{repeated(loop, 2048), true}, {repeated(loop, 2049), false},
		{end(repeated(loop, 4096)), true}, {end(repeated(loop, 4097)), false},
		{one(repeated(loop, 4095)), true}, {one(repeated(loop, 4096)), false},
		{all(repeated(block, 1000), repeated(loop, 1000), repeated(plain, 96)), true},
		{all(repeated(block, 1000), repeated(loop, 1000), repeated(plain, 97)), false},
		{all(repeated(plain, 97), repeated(loop, 1000), repeated(block, 1000)), false},
		{all(repeated(plain, 4095), repeated(block, 1)), false},
		{all(repeated(plain, 4094), repeated(block, 1)), true},
	} {
		want := -1
		if !c.right {
			want = len(c.p.Steps)
		}
		if got := told(t, c.p, false); got != want {
			t.Errorf("%d: %d, not %d", i, got, want)
		}
		s, why := program.Back(c.p, false)
		if c.right && (why != api.OK || len(s.Commands) > api.MaxCommand || !reeds.Same(s, cameBack(c.p, false))) || !c.right && (why != api.ErrProgram || len(s.Commands) > 0) {
			t.Errorf("%d: Back has error %d, %d commands", i, why, len(s.Commands))
		}
		// a step at fault is told ahead of the whole, wherever it stands
		for _, at := range []int{0, 1, 2047, 2048, 2049, 4095, 4096, len(c.p.Steps) - 1} {
			if at < len(c.p.Steps) {
				q := api.Program{Steps: slices.Clone(c.p.Steps)}
				q.Steps[at].Command.Other = "x"
				if got := told(t, q, false); got != at {
					t.Errorf("%d: %d, not %d", i, got, at)
				}
			}
		}
	}
}

// 15.2: MaxNest: at it, and one past it.
func TestCheckNest(t *testing.T) {
	nested := func(deep, ahead int) api.Program {
		p := repeated(api.Step{Command: api.Command{Name: '{'}, To: 1}, ahead)
		n := deep + ahead
		for range deep {
			p.Steps = append(p.Steps, api.Step{Command: api.Command{Name: '{'}, To: n})
		}
		return p
	}
	for _, ahead := range []int{0, 1, 70} {
		if got := told(t, nested(64, ahead), false); got >= 0 {
			t.Error("64 blocks:", got)
		}
		if got := told(t, nested(65, ahead), false); got != ahead+64 {
			t.Error("65 blocks:", got)
		}
		if got := told(t, nested(99, ahead), false); got != ahead+64 {
			t.Error("99 blocks:", got)
		}
	}
	// a block that has ended is not open any more
	p := nested(64, 0)
	p.Steps[63].To = 64
	for i := range 63 {
		p.Steps[i].To = 65
	}
	p.Steps = append(p.Steps, api.Step{Command: api.Command{Name: '{'}, To: 65})
	if got := told(t, p, false); got >= 0 {
		t.Error("64 blocks, twice:", got)
	}
	s, why := program.Back(p, false)
	if want := strings.Repeat("{", 64) + "}{" + strings.Repeat("}", 64); why != api.OK || letters(s) != want {
		t.Error("Back:", why, letters(s))
	}
	text := strings.Repeat("{", 64) + "p" + strings.Repeat("}", 64)
	if q := rushes.Read(t, text, false); told(t, q, false) >= 0 || fmt.Sprint(q.Steps[0].To, q.Steps[63].To) != "65 65" {
		t.Error("Make of 64 blocks:", tos(q))
	}
}
