package rushes

import (
	"slices"
	"strings"

	"paddock/api"
	"paddock/reeds"
	"paddock/twigs"
)

// Commands that programs are grown of, each by itself; blocks without what closes them.
const (
	plain = "p|1p|!p|=|$!n|n|N|1N|d|1d|!d|/a/D|D|q|1q|$Q5|!Q|c\\\nx|1,2c\\\nx|i\\\nx|r f|1R g|r g|w o|/b/W u|W o|s/a/b/|s/a/b/w u|1s/a/b/ew v|s/a//e|e ls|1!e|l 5|y/a/b/|x|z"
	jump  = "b|1b|!b|/a/,/b/!b|t|1t|!t|T|$T|/a/I,+2T"
	block = "{|1{|!{|2!{|/a/,$!{|0,/a/{"
)

// one is a command of a text, whatever else it is read with.
func one(t twigs.Test, s string) api.Command {
	t.Helper()
	behind := ""
	if strings.HasSuffix(s, "{") {
		behind = "}"
	}
	return reeds.Read(t, s+behind, false).Commands[0]
}

// Grower makes programs by a function that tells numbers below one by chance.
type Grower struct {
	chance              func(int) int
	plain, jump, blocks []api.Command
}

// NewGrower is one.
func NewGrower(t twigs.Test, chance func(int) int) *Grower {
	read := func(all string) (out []api.Command) {
		for _, s := range strings.Split(all, "|") {
			out = append(out, one(t, s))
		}
		return out
	}
	return &Grower{chance, read(plain), read(jump), read(block)}
}

func (g *Grower) pick(l []api.Command) api.Command {
	return reeds.Clone(api.Script{Commands: l[g.chance(len(l)):][:1]}).Commands[0]
}

// Grow is a program of so many steps, right as a basic one and as an extended one.
func (g *Grower) Grow(steps int) api.Program {
	out := api.Program{Quiet: g.chance(2) == 0}
	ends := []int{steps}
	for i := range steps {
		for ends[len(ends)-1] <= i {
			ends = ends[:len(ends)-1]
		}
		step := api.Step{Command: g.pick(g.plain)}
		switch g.chance(4) {
		case 0:
			step = api.Step{Command: g.pick(g.jump), To: g.chance(steps + 1)}
		case 1:
			if len(ends) <= api.MaxNest {
				step = api.Step{Command: g.pick(g.blocks), To: i + 1 + g.chance(ends[len(ends)-1]-i)}
				ends = append(ends, step.To)
			}
		}
		step.Command.At = g.chance(100)
		out.Steps = append(out.Steps, step)
	}
	out.Files = Files(out.Steps)
	return out
}

// Spoil changes one thing of a program; some of what comes of it is right still.
func (g *Grower) Spoil(p *api.Program) {
	n := len(p.Steps)
	if n == 0 {
		p.Steps = []api.Step{{Command: api.Command{Name: "p}:{bq"[g.chance(6)]}, To: g.chance(3)}}
		return
	}
	i := g.chance(n)
	switch g.chance(8) {
	case 0, 1, 2:
		p.Steps[i].To = []int{-1, 0, i, i + 1, i + 2, n - 1, n, n + 1, g.chance(n + 1), -1 << 63, 1<<63 - 1}[g.chance(11)]
	case 3, 4:
		s := api.Script{Commands: []api.Command{p.Steps[i].Command}}
		if reeds.Spoil(g.chance, &s); len(s.Commands) == 1 {
			p.Steps[i].Command = s.Commands[0]
		}
	case 5:
		p.Steps = slices.Delete(p.Steps, i, i+1)
	case 6:
		k := g.chance(n)
		p.Steps[i], p.Steps[k] = p.Steps[k], p.Steps[i]
	case 7:
		g.spoilFiles(p)
	}
	if g.chance(2) == 0 {
		p.Files = Files(p.Steps)
	}
}

func (g *Grower) spoilFiles(p *api.Program) {
	if n := len(p.Files); n > 0 && g.chance(2) == 0 {
		i := g.chance(n)
		p.Files = slices.Delete(p.Files, i, i+1)
		return
	}
	p.Files = append(p.Files, []string{"", "o", "u", "f"}[g.chance(4)])
	slices.Reverse(p.Files)
}
