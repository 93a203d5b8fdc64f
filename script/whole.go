package script

import (
	"slices"

	"paddock/api"
	"paddock/posix"
)

// whole tells which command is at fault by the whole script, and which rule it breaks (0: none is). A } stands where a { is open.
func whole(l []api.Command) (number, rule int) {
	for _, look := range []struct {
		at   func([]api.Command) int
		rule int
	}{{unclosed, api.RuleClose}, {twice, api.RuleTwice}, {astray, api.RuleTarget}} {
		if at := look.at(l); at >= 0 {
			return at, look.rule
		}
	}
	return 0, 0
}

// unclosed is the number of the first { that is not closed; -1: there is none.
func unclosed(l []api.Command) int {
	var open []int
	for i := range l {
		switch l[i].Name {
		case '{':
			open = append(open, i)
		case '}':
			open = open[:len(open)-1]
		}
	}
	if len(open) == 0 {
		return -1
	}
	return open[0]
}

// twice is the number of the first : whose label stands at one ahead; -1: there is none.
func twice(l []api.Command) int {
	stood := map[string]struct{}{}
	for i := range l {
		if l[i].Name != ':' {
			continue
		}
		if _, again := stood[l[i].Text]; again {
			return i
		}
		stood[l[i].Text] = struct{}{}
	}
	return -1
}

// astray is the number of the first jump to a label that is none; -1: there is none.
func astray(l []api.Command) int {
	labels := map[string]struct{}{"": {}} // an empty one leads to the end
	for i := range l {
		if l[i].Name == ':' {
			labels[l[i].Text] = struct{}{}
		}
	}
	return slices.IndexFunc(l, func(c api.Command) bool {
		_, told := labels[c.Text]
		return !told && (c.Name == 'b' || c.Name == 't' || c.Name == 'T')
	})
}

// Same tells whether two scripts are one, but for places.
func Same(a, b api.Script) bool {
	if a.Quiet != b.Quiet || a.Extended != b.Extended || len(a.Commands) != len(b.Commands) {
		return false
	}
	for i := range a.Commands {
		if !sameCommand(&a.Commands[i], &b.Commands[i]) {
			return false
		}
	}
	return true
}

func sameCommand(a, b *api.Command) bool {
	return a.Name == b.Name && a.Not == b.Not && a.N == b.N && a.Text == b.Text && a.Other == b.Other &&
		sameAddr(&a.First, &b.First) && sameAddr(&a.Second, &b.Second) && sameRegex(&a.Regex, &b.Regex) && sameSubst(&a.Subst, &b.Subst)
}

func sameAddr(a, b *api.Addr) bool {
	return a.Kind == b.Kind && a.N == b.N && a.Step == b.Step && sameRegex(&a.Regex, &b.Regex)
}

func sameRegex(a, b *api.Regex) bool {
	return a.Text == b.Text && a.Last == b.Last && a.Fold == b.Fold && posix.Same(a.Root, b.Root)
}

func sameSubst(a, b *api.Subst) bool {
	return a.Number == b.Number && a.Global == b.Global && a.Print == b.Print && a.Exec == b.Exec && a.File == b.File && slices.Equal(a.Pieces, b.Pieces)
}

// Copy is the same script in memory of its own.
func Copy(s api.Script) api.Script {
	s.Commands = slices.Clone(s.Commands)
	for i := range s.Commands {
		c := &s.Commands[i]
		for _, x := range []*api.Regex{&c.First.Regex, &c.Second.Regex, &c.Regex} {
			x.Root = posix.Copy(x.Root)
		}
		c.Subst.Pieces = slices.Clone(c.Subst.Pieces)
	}
	return s
}
