package program

import (
	"slices"

	"paddock/api"
	"paddock/script"
)

// Check tells whether a program is of any script; the number of the first step at fault, or of all steps, if the whole is.
func Check(p api.Program, extended bool) (api.Errno, int) {
	steps := len(p.Steps)
	if at := atFault(p.Steps, extended); at < steps {
		return api.ErrProgram, at
	}
	if size(p.Steps) > api.MaxCommand || !slices.Equal(p.Files, script.Files(api.Script{Commands: commands(p.Steps)})) {
		return api.ErrProgram, steps
	}
	return api.OK, 0
}

// atFault is the number of the first step at fault; that of all steps: none is.
func atFault(l []api.Step, extended bool) int {
	return ailing(l[:misled(l)], extended)
}

// misled is the number of the first step that has a letter of no step, a label, or a To that may not be; that of all steps: there is none.
func misled(l []api.Step) int {
	open := []int{len(l)} // where the blocks end that are open, the innermost one last; the first one is the whole
	for i := range l {
		for open[len(open)-1] <= i {
			open = open[:len(open)-1]
		}
		if !leads(&l[i], i, open) {
			return i
		}
		if l[i].Command.Name == '{' {
			open = append(open, l[i].To)
		}
	}
	return len(l)
}

// leads tells whether the step of a number goes where it may, these blocks being open.
func leads(s *api.Step, number int, open []int) bool {
	switch name := s.Command.Name; {
	case name == ':' || name == '}':
		return false
	case name == '{':
		return s.To > number && s.To <= open[len(open)-1] && len(open) <= api.MaxNest
	case jumps(name):
		return s.To >= 0 && s.To <= open[0] && s.Command.Text == ""
	}
	return s.To == 0
}

// ailing is the number of the first step whose command is not right by itself; that of all steps: there is none. Where they go is right.
func ailing(l []api.Step, extended bool) int {
	const most = api.MaxCommand / 2 // with a } for each they are no more than a script may have
	for at := 0; at < len(l); at += most {
		s, steps := apart(l[at:min(at+most, len(l))])
		s.Extended = extended
		if why, number := script.Check(s); why != api.OK {
			return at + steps[number]
		}
	}
	return len(l)
}

// apart is a script whose commands are right if each step's is by itself, as its blocks are closed where they begin; of each command the number of its step.
func apart(l []api.Step) (api.Script, []int) {
	var out api.Script
	var steps []int
	for i := range l {
		out.Commands = append(out.Commands, l[i].Command)
		steps = append(steps, i)
		if l[i].Command.Name == '{' {
			out.Commands = append(out.Commands, api.Command{Name: '}'})
			steps = append(steps, i)
		}
	}
	return out, steps
}

// size is how many commands the script of a right program has.
func size(l []api.Step) int {
	out := len(l) + len(targets(l))
	for i := range l {
		if l[i].Command.Name == '{' {
			out++
		}
	}
	return out
}
