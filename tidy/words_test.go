package tidy_test

import (
	"slices"
	"strings"
	"testing"

	"paddock/api"
	"paddock/marsh"
	"paddock/reach"
	"paddock/rushes"
)

// A second reading of the chapter's words: each rule tells of a step what the program becomes by it, without regard to how long that takes.

func bare(s api.Step) bool { return s.Command.First.Kind == api.AddrNone && !s.Command.Not }

func look(s api.Step) bool {
	return s.Command.First.Kind == api.AddrRegex || s.Command.Second.Kind == api.AddrRegex
}

func keeps(s api.Step) bool {
	c := s.Command
	return c.Name == 'w' || c.Name == 'W' || c.Name == 's' && c.Subst.File != ""
}

// goes tells whether a step of one of these letters goes to a place.
func goes(p api.Program, letters string, place int) bool {
	return slices.ContainsFunc(p.Steps, func(s api.Step) bool {
		return strings.IndexByte(letters, s.Command.Name) >= 0 && s.To == place
	})
}

// without is a program of whose steps some are taken out.
func without(p api.Program, out ...int) api.Program {
	less := p
	less.Steps = nil
	for i, s := range p.Steps {
		if slices.Contains(out, i) {
			continue
		}
		if strings.IndexByte("{btT", s.Command.Name) >= 0 {
			for _, k := range out {
				if k < p.Steps[i].To {
					s.To--
				}
			}
		}
		less.Steps = append(less.Steps, s)
	}
	return less
}

// byRule is what a program becomes by a rule at a step; false: the rule does not hold of it.
func byRule(t *testing.T, p api.Program, extended bool, number, i int) (api.Program, bool) {
	t.Helper()
	s := p.Steps[i]
	c := s.Command
	switch number {
	case 1:
		r, why := reach.Of(p, extended)
		if why != api.OK {
			t.Fatalf("on the way to a tidied program there is a wrong one: %s", rushes.Show(p))
		}
		return without(p, i), !r.Live[i] && !keeps(s) && c.Name != '{'
	case 2:
		return without(p, i), c.Name == '{' && s.To == i+1 && !look(s)
	case 3:
		return without(p, i), c.Name == 'b' && s.To == i+1 && !look(s)
	case 4:
		return without(p, i), c.Name == '{' && bare(s)
	case 5:
		if c.Name != '{' || s.To != i+2 {
			return p, false
		}
		inner := p.Steps[i+1]
		if !bare(inner) || inner.Command.Name == '{' || goes(p, "btT", i+1) || c.Second.Kind != api.AddrNone && strings.IndexByte("cqQ", inner.Command.Name) >= 0 {
			return p, false
		}
		p.Steps = slices.Clone(p.Steps)
		to := &p.Steps[i+1].Command
		to.First, to.Second, to.Not = c.First, c.Second, c.Not
		return without(p, i), true
	}
	if i+1 == len(p.Steps) || !bare(s) || !bare(p.Steps[i+1]) || c.Name != p.Steps[i+1].Command.Name || strings.IndexByte("ghzx", c.Name) < 0 || goes(p, "{btT", i+1) {
		return p, false
	}
	if c.Name == 'x' {
		return without(p, i, i+1), true
	}
	return without(p, i+1), true
}

// tidied is a right program, tidied, and how often each rule was applied.
func tidied(t *testing.T, p api.Program, extended bool) (api.Program, [7]int) {
	t.Helper()
	var used [7]int
	for {
		number := 0
		for i := 0; i < len(p.Steps) && number == 0; i++ {
			for n := 1; n <= 6; n++ {
				if less, holds := byRule(t, p, extended, n, i); holds {
					p, number = less, n
					break
				}
			}
		}
		if number == 0 {
			return p, used
		}
		used[number]++
	}
}

// What scripts are grown of that have much in them that is for nothing; @ is an LF.
const (
	addresses = "||||||1|2|$|/a/|//|1,2|2,$|1,/b/|/a/,2|0,/b/|2,+1|0~2|1,~2"
	letters   = "x|x|x@x|x@x|g|g@g|h|h@h|z|z@z|G|G@G|H|p|p|=|d|D|n|N|b|b|bx|bx|by|by|t|tx|Tx|ty|Ty|q|Q3|c\\@C|a\\@A|i\\@I|l|P|F|y/ab/ba/|s/a/b/|s/b/xa/g|s//y/|s/x/a/w o|w o|W u|r f|R f|e ls|s/a/b/e"
)

// text is a script by chance, of about so many commands.
func text(chance func(int) int, commands int) string {
	return marsh.Mixed(chance, commands, 4, addresses, letters)
}

// grown is a program of it.
func grown(t *testing.T, chance func(int) int) api.Program {
	t.Helper()
	return rushes.Read(t, text(chance, 1+chance(12)), false)
}
