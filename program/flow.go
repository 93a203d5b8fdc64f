package program

import (
	"slices"

	"paddock/api"
)

// Flow are the steps that may come behind one, rising; their number: the cycle's end.
func Flow(p api.Program, i int) []int {
	if i < 0 || i >= len(p.Steps) {
		return nil
	}
	s := &p.Steps[i]
	addressed := s.Command.First.Kind != api.AddrNone
	var out []int
	if addressed || s.Command.Not {
		out = append(out, passed(s, i))
	}
	if addressed || !s.Command.Not {
		out = append(out, taken(s, i, len(p.Steps))...)
	}
	slices.Sort(out)
	return slices.Compact(out)
}

// passed is where the step of a number leads that is passed over.
func passed(s *api.Step, number int) int {
	if s.Command.Name == '{' {
		return s.To
	}
	return number + 1
}

// taken is where the step of a number may lead that is done, of so many steps.
func taken(s *api.Step, number, steps int) []int {
	next := number + 1
	switch s.Command.Name {
	case 'b':
		return []int{s.To}
	case 't', 'T':
		return []int{next, s.To}
	case 'd', 'D', 'c':
		return []int{steps}
	case 'q', 'Q':
		return nil
	case 'n', 'N':
		return []int{next, steps}
	}
	return []int{next}
}
