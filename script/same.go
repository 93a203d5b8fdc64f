package script

import (
	"slices"

	"paddock/api"
	"paddock/posix"
)

// Same tells whether two scripts are one, but for places.
func Same(a, b api.Script) bool {
	if a.Quiet != b.Quiet || a.Extended != b.Extended || len(a.Commands) != len(b.Commands) {
		return false
	}
	for i := range a.Commands {
		if !sameCommand(&a.Commands[i], &b.Commands[i]) {
			return false
		}
	}
	return true
}

func sameCommand(a, b *api.Command) bool {
	return a.Name == b.Name && a.Not == b.Not && a.N == b.N && a.Text == b.Text && a.Other == b.Other &&
		sameAddr(&a.First, &b.First) && sameAddr(&a.Second, &b.Second) && sameRegex(&a.Regex, &b.Regex) && sameSubst(&a.Subst, &b.Subst)
}

func sameAddr(a, b *api.Addr) bool {
	return a.Kind == b.Kind && a.N == b.N && a.Step == b.Step && sameRegex(&a.Regex, &b.Regex)
}

func sameRegex(a, b *api.Regex) bool {
	return a.Text == b.Text && a.Last == b.Last && a.Fold == b.Fold && posix.Same(a.Root, b.Root)
}

func sameSubst(a, b *api.Subst) bool {
	return a.Number == b.Number && a.Global == b.Global && a.Print == b.Print && a.Exec == b.Exec && a.File == b.File && slices.Equal(a.Pieces, b.Pieces)
}

// Copy is the same script in memory of its own.
func Copy(s api.Script) api.Script {
	s.Commands = slices.Clone(s.Commands)
	for i := range s.Commands {
		c := &s.Commands[i]
		for _, x := range []*api.Regex{&c.First.Regex, &c.Second.Regex, &c.Regex} {
			x.Root = posix.Copy(x.Root)
		}
		c.Subst.Pieces = slices.Clone(c.Subst.Pieces)
	}
	return s
}
