package pretty

import (
	"strconv"
	"strings"

	"paddock/api"
	"paddock/pairs"
)

// taker writes what stands behind a command's letter, up to the LF that ends the command.
type taker func(*writer, *api.Command)

// writer writes the commands of a right script one behind another.
type writer struct {
	takes map[byte]taker
	by    byte // the delimiter of the command that is written
	out   []byte
}

// takers has of each letter what writes that which it takes; a letter that takes nothing is not in it.
func takers() map[byte]taker {
	out := map[byte]taker{'s': (*writer).subst, 'y': (*writer).table}
	put := func(names string, t taker) {
		for i := range len(names) {
			out[names[i]] = t
		}
	}
	put("lqQ", (*writer).number)
	put(":btTrRwWe", (*writer).text)
	put("aic", (*writer).lines)
	return out
}

func (w *writer) put(s string) { w.out = append(w.out, s...) }

func (w *writer) putByte(c byte) { w.out = append(w.out, c) }

func (w *writer) putNumber(n int) { w.out = strconv.AppendInt(w.out, int64(n), 10) }

// putMarked writes a text with a backslash ahead of each byte that is one of some, and \n for an LF.
func (w *writer) putMarked(s, marked string) {
	for i := range len(s) {
		switch {
		case s[i] == '\n':
			w.put("\\n")
			continue
		case strings.IndexByte(marked, s[i]) >= 0:
			w.putByte('\\')
		}
		w.putByte(s[i])
	}
}

func (w *writer) command(c *api.Command) {
	w.address(&c.First)
	if c.Second.Kind != api.AddrNone {
		w.putByte(',')
		w.address(&c.Second)
	}
	if c.Not {
		w.putByte('!')
	}
	w.putByte(c.Name)
	if take, takes := w.takes[c.Name]; takes {
		take(w, c)
	}
	w.putByte('\n')
}

func (w *writer) address(a *api.Addr) {
	switch a.Kind {
	case api.AddrLine:
		w.putNumber(a.N)
	case api.AddrLast:
		w.putByte('$')
	case api.AddrStep:
		w.putNumber(a.N)
		w.putByte('~')
		w.putNumber(a.Step)
	case api.AddrPlus:
		w.putByte('+')
		w.putNumber(a.N)
	case api.AddrMultiple:
		w.putByte('~')
		w.putNumber(a.N)
	case api.AddrRegex:
		if w.by != '/' {
			w.putByte('\\')
		}
		w.regex(&a.Regex)
		if a.Regex.Fold {
			w.putByte('I')
		}
	}
}

// regex writes an expression with the delimiters around it.
func (w *writer) regex(x *api.Regex) {
	w.putByte(w.by)
	for _, p := range pairs.Each(x.Text) {
		if len(p) == 1 && p[0] == w.by {
			w.putByte('\\')
		}
		w.put(p)
	}
	w.putByte(w.by)
}

func (w *writer) number(c *api.Command) {
	if c.N != -1 {
		w.putNumber(c.N)
	}
}

func (w *writer) text(c *api.Command) { w.put(c.Text) }

// lines writes the text of a, i, c; its last LF is that of the command.
func (w *writer) lines(c *api.Command) {
	w.put("\\\n")
	text := strings.TrimSuffix(c.Text, "\n")
	for i := range len(text) {
		if text[i] == '\\' || text[i] == '\n' {
			w.putByte('\\')
		}
		w.putByte(text[i])
	}
}

func (w *writer) table(c *api.Command) {
	w.putByte('/')
	for _, side := range []string{c.Text, c.Other} {
		w.putMarked(side, "\\/")
		w.putByte('/')
	}
}

func (w *writer) subst(c *api.Command) {
	w.regex(&c.Regex)
	for _, p := range c.Subst.Pieces {
		w.piece(p)
	}
	w.putByte(w.by)
	w.flags(c)
}

func (w *writer) piece(p api.Piece) {
	switch p.Kind {
	case api.PieceText:
		w.putMarked(p.Text, "\\&"+string([]byte{w.by}))
	case api.PieceGroup:
		if p.N == 0 {
			w.putByte('&')
			return
		}
		w.putByte('\\')
		w.putNumber(p.N)
	default:
		w.putByte('\\')
		w.putByte(turns[p.Kind])
	}
}

// turns has the letter of each turn of case.
var turns = [api.PieceCount]byte{
	api.PieceUpper: 'U',
	api.PieceLower: 'L',
	api.PieceFirst: 'u',
	api.PieceSmall: 'l',
	api.PieceEnd:   'E',
}

func (w *writer) flags(c *api.Command) {
	for _, f := range []struct {
		set  bool
		name byte
	}{{c.Subst.Global, 'g'}, {c.Subst.Print, 'p'}, {c.Subst.Exec, 'e'}, {c.Regex.Fold, 'I'}} {
		if f.set {
			w.putByte(f.name)
		}
	}
	if c.Subst.Number != 0 {
		w.putNumber(c.Subst.Number)
	}
	if c.Subst.File != "" {
		w.put("w ")
		w.put(c.Subst.File)
	}
}
