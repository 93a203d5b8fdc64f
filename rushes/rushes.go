// Package rushes makes programs for the tests of the other packages; the program itself does not call it.
package rushes

import (
	"slices"
	"strconv"
	"strings"

	"paddock/api"
	"paddock/program"
	"paddock/reeds"
	"paddock/twigs"
)

// Read is the program of a script's text.
func Read(t twigs.Test, s string, extended bool) api.Program {
	t.Helper()
	out, why, number := program.Make(reeds.Read(t, s, extended))
	if why != api.OK {
		t.Fatalf("%q: error %d at %d", s, why, number)
	}
	return out
}

// Bare is a script of a program's commands as they are, without labels and closing braces.
func Bare(p api.Program) api.Script {
	var out []api.Command
	for _, s := range p.Steps {
		out = append(out, s.Command)
	}
	return api.Script{Commands: out, Quiet: p.Quiet}
}

// with is a program in lists of its own, with the commands of a script of as many.
func with(p api.Program, s api.Script) api.Program {
	var steps []api.Step
	for i, c := range s.Commands {
		steps = append(steps, api.Step{Command: c, To: p.Steps[i].To})
	}
	p.Steps = steps
	p.Files = append([]string(nil), p.Files...)
	return p
}

// Clone shares no memory with a program.
func Clone(p api.Program) api.Program { return with(p, reeds.Clone(Bare(p))) }

// Show tells all of a program but the places of its commands; nil and empty lists are alike.
func Show(p api.Program) string {
	out := []string{reeds.Show(api.Script{Quiet: p.Quiet})}
	for _, s := range p.Steps {
		out = append(out, reeds.ShowCommand(s.Command)+" to "+strconv.Itoa(s.To))
	}
	for _, f := range p.Files {
		out = append(out, strconv.Quote(f))
	}
	return strings.Join(out, "\n")
}

// Same tells whether all fields are the same, but for places.
func Same(a, b api.Program) bool { return Show(a) == Show(b) }

// Places are those of a program's commands.
func Places(p api.Program) []int { return reeds.Places(Bare(p)) }

// What spare room is full of, and what is written over.
const (
	room = "room"
	blot = "blot"
)

// Roomy is the same program with spare room, full of marks, in each list.
func Roomy(p api.Program) api.Program {
	p = with(p, reeds.Roomy(Bare(p)))
	p.Steps = append(slices.Clip(p.Steps), api.Step{Command: api.Command{Text: room}})[:len(p.Steps)]
	p.Files = append(slices.Clip(p.Files), room)[:len(p.Files)]
	return p
}

// Untouched tells whether the spare room of what Roomy made is as it was made.
func Untouched(p api.Program) bool {
	for i := range p.Steps {
		if !reeds.CommandUntouched(&p.Steps[i].Command) {
			return false
		}
	}
	step := p.Steps[:len(p.Steps)+1][len(p.Steps)]
	return step.To == 0 && reeds.ShowCommand(step.Command) == reeds.ShowCommand(api.Command{Text: room}) && p.Files[:len(p.Files)+1][len(p.Files)] == room
}

// Blot writes over all memory that a program has, spare room too.
func Blot(p api.Program) {
	reeds.Blot(Bare(p))
	steps := p.Steps[:cap(p.Steps)]
	for i := range steps {
		steps[i] = api.Step{Command: api.Command{Text: blot}, To: len(blot)}
	}
	BlotNames(p.Files)
}

// BlotNames writes over all memory that a list of texts has.
func BlotNames(l []string) {
	l = l[:cap(l)]
	for i := range l {
		l[i] = blot
	}
}

// Apart tells whether no two lists of a program have memory in common, spare room included.
func Apart(p api.Program) bool { return reeds.Apart(Bare(p)) }

// Files are the names that a program's Files must be: those that its steps write, each at its first place.
func Files(l []api.Step) []string {
	var out []string
	for _, s := range l {
		name := ""
		switch s.Command.Name {
		case 'w', 'W':
			name = s.Command.Text
		case 's':
			name = s.Command.Subst.File
		}
		if name != "" && !slices.Contains(out, name) {
			out = append(out, name)
		}
	}
	return out
}
