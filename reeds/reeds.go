// Package reeds makes scripts for the tests of the other packages; the program itself does not call it.
package reeds

import (
	"slices"
	"strconv"
	"strings"

	"paddock/api"
	"paddock/script"
	"paddock/twigs"
)

// Read is the script of a text.
func Read(t twigs.Test, s string, extended bool) api.Script {
	t.Helper()
	out, why, flaw := script.Parse(s, extended)
	if why != api.OK {
		t.Fatalf("%q: error %d, %v", s, why, flaw)
	}
	return out
}

// Clone shares no memory with a script.
func Clone(s api.Script) api.Script {
	var out []api.Command
	for _, c := range s.Commands {
		for _, x := range regexes(&c) {
			x.Root = twigs.Clone(x.Root)
		}
		c.Subst.Pieces = append([]api.Piece(nil), c.Subst.Pieces...)
		out = append(out, c)
	}
	s.Commands = out
	return s
}

func regexes(c *api.Command) []*api.Regex {
	return []*api.Regex{&c.First.Regex, &c.Second.Regex, &c.Regex}
}

// Same tells whether all fields are the same, but for places; nil and empty lists are alike.
func Same(a, b api.Script) bool { return Show(a) == Show(b) }

// Show tells all of a script but the places of its commands.
func Show(s api.Script) string {
	out := []string{"script" + flag(s.Quiet, " quiet") + flag(s.Extended, " extended")}
	for _, c := range s.Commands {
		out = append(out, ShowCommand(c))
	}
	return strings.Join(out, "\n")
}

// Places are those of a script's commands.
func Places(s api.Script) []int {
	var out []int
	for _, c := range s.Commands {
		out = append(out, c.At)
	}
	return out
}

// ShowCommand tells all of a command but its place.
func ShowCommand(c api.Command) string {
	words := []string{showAddr(c.First), showAddr(c.Second), flag(c.Not, "!"), strconv.QuoteRune(rune(c.Name)), strconv.Quote(c.Text), strconv.Quote(c.Other), strconv.Itoa(c.N), showRegex(c.Regex), strconv.Itoa(c.Subst.Number), flag(c.Subst.Global, "g"), flag(c.Subst.Print, "p"), flag(c.Subst.Exec, "e"), strconv.Quote(c.Subst.File)}
	for _, p := range c.Subst.Pieces {
		words = append(words, strconv.Itoa(int(p.Kind))+":"+strconv.Itoa(p.N)+":"+strconv.Quote(p.Text))
	}
	return strings.Join(words, " | ")
}

func showAddr(a api.Addr) string {
	return strings.Join([]string{strconv.Itoa(int(a.Kind)), strconv.Itoa(a.N), strconv.Itoa(a.Step), showRegex(a.Regex)}, ":")
}

func showRegex(x api.Regex) string {
	return strconv.Quote(x.Text) + flag(x.Last, " last") + flag(x.Fold, " fold") + " " + twigs.Show(x.Root)
}

func flag(set bool, name string) string {
	if set {
		return name
	}
	return ""
}

// What spare room is full of, and what is written over.
const (
	room = 66
	blot = 77
)

// Roomy is the same script with spare room, full of marks, in each list.
func Roomy(s api.Script) api.Script {
	s = Clone(s)
	for i := range s.Commands {
		c := &s.Commands[i]
		for _, x := range regexes(c) {
			x.Root = twigs.Roomy(x.Root)
		}
		n := len(c.Subst.Pieces)
		c.Subst.Pieces = append(slices.Clip(c.Subst.Pieces), api.Piece{N: room})[:n]
	}
	n := len(s.Commands)
	s.Commands = append(slices.Clip(s.Commands), api.Command{N: room})[:n]
	return s
}

// Untouched tells whether the spare room of what Roomy made is as it was made.
func Untouched(s api.Script) bool {
	for i := range s.Commands {
		if !CommandUntouched(&s.Commands[i]) {
			return false
		}
	}
	l := s.Commands
	return ShowCommand(l[:len(l)+1][len(l)]) == ShowCommand(api.Command{N: room})
}

// CommandUntouched tells it of the lists of a command alone.
func CommandUntouched(c *api.Command) bool {
	for _, x := range regexes(c) {
		if !twigs.Untouched(x.Root) {
			return false
		}
	}
	l := c.Subst.Pieces
	return l[:len(l)+1][len(l)] == api.Piece{N: room}
}

// Blot writes over all memory that a script has, spare room too.
func Blot(s api.Script) {
	for i := range s.Commands {
		c := &s.Commands[i]
		for _, x := range regexes(c) {
			twigs.Blot(x.Root)
		}
		l := c.Subst.Pieces[:cap(c.Subst.Pieces)]
		for i := range l {
			l[i] = api.Piece{N: blot}
		}
	}
	l := s.Commands[:cap(s.Commands)]
	for i := range l {
		l[i] = api.Command{N: blot}
	}
}

// Apart tells whether no two lists of a script have memory in common, spare room included.
func Apart(s api.Script) bool {
	pieces := map[*api.Piece]struct{}{}
	var trees []api.Node
	for i := range s.Commands {
		c := &s.Commands[i]
		for _, x := range regexes(c) {
			trees = append(trees, x.Root)
		}
		l := c.Subst.Pieces[:cap(c.Subst.Pieces)]
		for i := range l {
			if _, again := pieces[&l[i]]; again {
				return false
			}
			pieces[&l[i]] = struct{}{}
		}
	}
	return twigs.Apart(api.Node{Kids: trees})
}
