package script

import (
	"strings"

	"paddock/api"
	"paddock/pairs"
)

// maxCode is the greatest exit code.
const maxCode = 255

// Fields of a command that its letter may use.
const (
	usesText = 1 << iota
	usesOther
	usesN
	usesSubst // and Regex
)

// letter is what a command's letter takes: so many addresses at most (if none, no ! either), which fields it uses, how what stands behind it is read, and whether these fields of a command are right.
type letter struct {
	most, uses int
	read       func(*reader, *api.Command)
	right      func(*checker, *api.Command) bool
}

// letters has all letters of commands.
func letters() map[byte]letter {
	out := map[byte]letter{
		'{': {2, 0, (*reader).open, (*checker).open},
		'}': {0, 0, (*reader).close, (*checker).close},
		':': {0, usesText, (*reader).label, (*checker).label},
		'l': {2, usesN, (*reader).width, (*checker).width},
		'e': {2, usesText, (*reader).shell, (*checker).shell},
		'y': {2, usesText | usesOther, (*reader).table, (*checker).table},
		's': {2, usesSubst, (*reader).subst, (*checker).subst},
	}
	put := func(names string, l letter) {
		for i := range len(names) {
			out[names[i]] = l
		}
	}
	put("=dDFgGhHnNpPxz", letter{2, 0, (*reader).nothing, (*checker).nothing})
	put("qQ", letter{1, usesN, (*reader).code, (*checker).code})
	put("aic", letter{2, usesText, (*reader).lines, (*checker).lines})
	put("btT", letter{2, usesText, (*reader).jump, (*checker).jump})
	put("rRwW", letter{2, usesText, (*reader).file, (*checker).file})
	return out
}

// lets tells whether a letter takes the addresses and the ! that stand ahead of it.
func (l letter) lets(c *api.Command) bool {
	given := 0
	if c.First.Kind != api.AddrNone {
		given++
	}
	if c.Second.Kind != api.AddrNone {
		given++
	}
	return given <= l.most && (l.most > 0 || !c.Not)
}

func (r *reader) open(c *api.Command) {
	if r.nest == api.MaxNest {
		giveUp(c.At, api.RuleNest)
	}
	r.nest++
}

func (r *reader) close(c *api.Command) {
	if r.nest == 0 {
		giveUp(c.At, api.RuleOpen)
	}
	r.nest--
	r.end()
}

func (r *reader) nothing(*api.Command) { r.end() }

func (r *reader) width(c *api.Command) { c.N = r.numberTo(api.MaxNumber) }

func (r *reader) code(c *api.Command) { c.N = r.numberTo(maxCode) }

// numberTo reads a number that ends a command, -1 if there is none.
func (r *reader) numberTo(most int) int {
	r.pass(blanks)
	begin := r.at
	n, given := r.number()
	if n > most {
		giveUp(begin, api.RuleNumber)
	}
	if !given {
		n = -1
	}
	r.end()
	return n
}

// lines reads the text of a, i, c.
func (r *reader) lines(c *api.Command) {
	r.pass(blanks)
	if r.next("\\") {
		r.at++
		begin := r.at
		r.pass(blanks)
		if r.next("\n") {
			r.at++
		} else if !r.over() {
			r.at = begin // blanks that no LF follows are the text's own
		}
	}
	if r.over() || r.next("\n") {
		giveUp(c.At, api.RuleText)
	}
	var out []byte
	for _, p := range pairs.Each(r.text[r.at:]) {
		if p == "\n" {
			break
		}
		out = append(out, p[len(p)-1])
		r.at += len(p)
	}
	c.Text = string(out) + "\n"
}

func (r *reader) label(c *api.Command) { c.Text = r.name("\n;", 1) }

func (r *reader) jump(c *api.Command) { c.Text = r.name("\n;}", 0) }

// name reads a label of so many bytes at least, up to one of some bytes.
func (r *reader) name(ends string, least int) string {
	r.pass(blanks)
	begin := r.at
	name := strings.TrimRight(r.until(ends), blanks)
	if len(name) < least || len(name) > api.MaxLabel {
		giveUp(begin, api.RuleLabel)
	}
	return name
}

func (r *reader) file(c *api.Command) { c.Text = r.fileName() }

func (r *reader) fileName() string {
	r.pass(blanks)
	begin := r.at
	name := r.until("\n")
	if name == "" || len(name) > api.MaxPath {
		giveUp(begin, api.RuleFile)
	}
	return name
}

func (r *reader) shell(c *api.Command) {
	r.pass(blanks)
	c.Text = r.until("\n")
}

func (r *reader) table(c *api.Command) {
	left, right := r.parts(c, false)
	c.Text, c.Other = left.side(), right.side()
	if !isTable(c.Text, c.Other) {
		giveUp(c.At, api.RuleTable)
	}
	r.end()
}

func (r *reader) subst(c *api.Command) {
	expression, replacement := r.parts(c, true)
	c.Regex = r.regex(expression)
	c.Subst.Pieces = replacement.pieces()
	if !knows(&c.Regex, c.Subst.Pieces) {
		giveUp(replacement.at, api.RuleGroup)
	}
	r.flags(c, expression.at)
	r.end()
}

// flags reads those of s, one behind another. At: where the expression's text begins.
func (r *reader) flags(c *api.Command, at int) {
	byName := r.flagsOf(c, at)
	stood := map[byte]struct{}{}
	for !r.over() {
		begin, name := r.at, flagName(r.text[r.at])
		read, told := byName[name]
		if !told {
			return
		}
		read()
		if _, again := stood[name]; again {
			giveUp(begin, api.RuleFlag)
		}
		stood[name] = struct{}{}
	}
}

// flagName is one name for all bytes that the same flag may begin with.
func flagName(c byte) byte {
	switch {
	case c == 'i':
		return 'I'
	case c >= '0' && c <= '9':
		return '0'
	}
	return c
}

// flagsOf has of each flag's name what reads it into a command.
func (r *reader) flagsOf(c *api.Command, at int) map[byte]func() {
	set := func(to *bool) func() {
		return func() {
			r.at++
			*to = true
		}
	}
	return map[byte]func(){
		'g': set(&c.Subst.Global),
		'p': set(&c.Subst.Print),
		'e': set(&c.Subst.Exec),
		'0': func() { c.Subst.Number = r.flagNumber() },
		'I': func() {
			r.at++
			fold(&c.Regex, at)
		},
		'w': func() {
			r.at++
			c.Subst.File = r.fileName()
		},
	}
}

func (r *reader) flagNumber() int {
	begin := r.at
	n, _ := r.number()
	if n > api.MaxNumber {
		giveUp(begin, api.RuleNumber)
	}
	if n == 0 {
		giveUp(begin, api.RuleFlag)
	}
	return n
}
