package reach_test

import (
	"slices"

	"paddock/api"
	"paddock/program"
)

// A second reading of the chapter's words, without regard to how long it takes.

// arrows has of each step those that Flow tells of it, the cycle's end left out.
func arrows(p api.Program) [][]bool {
	out := make([][]bool, len(p.Steps))
	for i := range out {
		out[i] = make([]bool, len(p.Steps))
		for _, to := range program.Flow(p, i) {
			if to != len(p.Steps) {
				out[i][to] = true
			}
		}
	}
	return out
}

// led has of each step those to which Flow leads from it over one step or more.
func led(p api.Program) [][]bool {
	out := arrows(p)
	for k := range out {
		for i := range out {
			for j := range out {
				out[i][j] = out[i][j] || out[i][k] && out[k][j]
			}
		}
	}
	return out
}

// isLive has of each step whether it is live.
func isLive(p api.Program) []bool {
	out := make([]bool, len(p.Steps))
	for i, from := range led(p) {
		if i == 0 {
			copy(out, from)
			out[0] = true
		}
	}
	return out
}

// again tells whether a step may come again.
func again(p api.Program) bool {
	live := isLive(p)
	for i, from := range led(p) {
		if live[i] && from[i] {
			return true
		}
	}
	return false
}

// waysOf are all ways of so many steps, by rising numbers from the left.
func waysOf(p api.Program, steps int) [][]int {
	if len(p.Steps) == 0 || steps == 0 {
		return nil
	}
	leads := arrows(p)
	out := [][]int{{0}}
	for range steps - 1 {
		var longer [][]int
		for _, w := range out {
			for to, does := range leads[w[len(w)-1]] {
				if does {
					longer = append(longer, append(slices.Clone(w), to))
				}
			}
		}
		out = longer
	}
	return out
}

// shortest is the way to a step that is to be told: of all ways to it the first one of the fewest steps.
func shortest(p api.Program, i int) ([]int, bool) {
	for steps := 1; steps <= len(p.Steps); steps++ {
		for _, w := range waysOf(p, steps) {
			if w[len(w)-1] == i {
				return w, true
			}
		}
	}
	return nil, false
}

// bound is the greatest number of steps of a way; false: there are ways of any length, as there is one of more steps than the program has.
func bound(p api.Program) (int, bool) {
	if len(waysOf(p, len(p.Steps)+1)) > 0 {
		return 0, false
	}
	steps := len(p.Steps)
	for steps > 0 && len(waysOf(p, steps)) == 0 {
		steps--
	}
	return steps, true
}

// reached is what Of tells of a right program.
func reached(p api.Program) api.Reach {
	out := api.Reach{Live: isLive(p), Again: again(p)}
	add := func(to *[]string, name string) {
		if name != "" && !slices.Contains(*to, name) {
			*to = append(*to, name)
		}
	}
	for i, s := range p.Steps {
		if !out.Live[i] {
			continue
		}
		c := s.Command
		if c.Name == 'r' || c.Name == 'R' {
			add(&out.Reads, c.Text)
		}
		if c.Name == 'w' || c.Name == 'W' {
			add(&out.Written, c.Text)
		}
		if c.Name == 's' {
			add(&out.Written, c.Subst.File)
		}
		out.Exec = out.Exec || c.Name == 'e' || c.Name == 's' && c.Subst.Exec
		out.Quits = out.Quits || c.Name == 'q' || c.Name == 'Q'
	}
	return out
}
