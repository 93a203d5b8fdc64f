package program_test

import (
	"slices"
	"strconv"
	"strings"

	"paddock/api"
	"paddock/reeds"
	"paddock/rushes"
	"paddock/script"
)

// A second reading of the chapter's words, without regard to how long it takes.

// isStep tells whether a command of a script is a step of its program.
func isStep(c api.Command) bool { return c.Name != ':' && c.Name != '}' }

func isJump(c api.Command) bool { return strings.IndexByte("btT", c.Name) >= 0 }

// stepsAhead is how many steps stand ahead of a command.
func stepsAhead(s api.Script, of int) int {
	n := 0
	for _, c := range s.Commands[:of] {
		if isStep(c) {
			n++
		}
	}
	return n
}

// closing is the number of the } of a {.
func closing(s api.Script, of int) int {
	deep := 0
	for i := of; ; i++ {
		switch s.Commands[i].Name {
		case '{':
			deep++
		case '}':
			deep--
		}
		if deep == 0 {
			return i
		}
	}
}

// made is the program of a right script.
func made(s api.Script) api.Program {
	s = reeds.Clone(s)
	out := api.Program{Quiet: s.Quiet}
	for i, c := range s.Commands {
		if !isStep(c) {
			continue
		}
		step := api.Step{Command: c}
		if c.Name == '{' {
			step.To = stepsAhead(s, closing(s, i))
		}
		if isJump(c) {
			step.Command.Text = ""
			place := slices.IndexFunc(s.Commands, func(l api.Command) bool { return l.Name == ':' && l.Text == c.Text })
			if place < 0 {
				place = len(s.Commands)
			}
			step.To = stepsAhead(s, place)
		}
		out.Steps = append(out.Steps, step)
	}
	out.Files = rushes.Files(out.Steps)
	return out
}

// part is a command of the script that comes back, and where it stands: ahead of a step, of several there by rising ranks.
type part struct {
	place, rank int
	command     api.Command
}

// cameBack is the script of a program, also of a wrong one: each command is put where it belongs.
func cameBack(p api.Program, extended bool) api.Script {
	p = rushes.Clone(p)
	var places []int
	for _, s := range p.Steps {
		if isJump(s.Command) && s.To != len(p.Steps) {
			places = append(places, s.To)
		}
	}
	slices.Sort(places)
	places = slices.Compact(places)
	var parts []part
	for i, s := range p.Steps {
		if isJump(s.Command) && s.To != len(p.Steps) {
			s.Command.Text = "l" + strconv.Itoa(1+slices.Index(places, s.To))
		}
		parts = append(parts, part{i, 2, s.Command})
		if s.Command.Name == '{' {
			parts = append(parts, part{s.To, 0, api.Command{Name: '}'}})
		}
	}
	for i, place := range places {
		parts = append(parts, part{place, 1, api.Command{Name: ':', Text: "l" + strconv.Itoa(1+i)}})
	}
	slices.SortStableFunc(parts, func(a, b part) int {
		if a.place != b.place {
			if a.place < b.place {
				return -1
			}
			return 1
		}
		return a.rank - b.rank
	})
	out := api.Script{Quiet: p.Quiet, Extended: extended}
	for _, x := range parts {
		out.Commands = append(out.Commands, x.command)
	}
	return out
}

// isOfScript tells whether a program is that of a script: if it is of any, it is of the one that comes back.
func isOfScript(p api.Program, extended bool) bool {
	for _, s := range p.Steps {
		if isJump(s.Command) && s.Command.Text != "" || !isStep(s.Command) {
			return false
		}
	}
	s := cameBack(p, extended)
	why, _ := script.Check(s)
	return why == api.OK && rushes.Same(made(s), p)
}

// fault is the number that Check tells of a wrong program, -1 of a right one.
func fault(p api.Program, extended bool) int {
	n := len(p.Steps)
	for i := range p.Steps {
		if isAtFault(p.Steps, i, extended) {
			return i
		}
	}
	if !slices.Equal(p.Files, rushes.Files(p.Steps)) || len(cameBack(p, extended).Commands) > 4096 {
		return n
	}
	return -1
}

// isAtFault tells it of a step, none ahead of it being at fault.
func isAtFault(l []api.Step, i int, extended bool) bool {
	s, c := l[i], l[i].Command
	alone := api.Script{Commands: []api.Command{c}, Extended: extended}
	if c.Name == '{' {
		alone.Commands = append(alone.Commands, api.Command{Name: '}'})
	}
	if why, _ := script.Check(alone); why != api.OK || !isStep(c) || isJump(c) && c.Text != "" {
		return true
	}
	if isJump(c) {
		return s.To < 0 || s.To > len(l)
	}
	if c.Name != '{' {
		return s.To != 0
	}
	if s.To <= i || s.To > len(l) {
		return true
	}
	open := 1
	for _, ahead := range l[:i] {
		if ahead.Command.Name == '{' && ahead.To > i {
			open++
			if s.To > ahead.To {
				return true
			}
		}
	}
	return open > 64
}

// flow is what Flow tells, in any order.
func flow(p api.Program, i int) map[int]int {
	out := map[int]int{}
	n := len(p.Steps)
	if i < 0 || i >= n {
		return out
	}
	s := p.Steps[i]
	c := s.Command
	if c.First.Kind != api.AddrNone || c.Not {
		if c.Name == '{' {
			out[s.To]++
		} else {
			out[i+1]++
		}
	}
	if c.Not && c.First.Kind == api.AddrNone {
		return out
	}
	if strings.IndexByte("bdDcqQ", c.Name) < 0 {
		out[i+1]++
	}
	if isJump(c) {
		out[s.To]++
	}
	if strings.IndexByte("dDcnN", c.Name) >= 0 {
		out[n]++
	}
	return out
}
