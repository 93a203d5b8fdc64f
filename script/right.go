package script

import (
	"strings"

	"paddock/api"
	"paddock/posix"
)

// maxGroup is the greatest number of a group that a piece can name.
const maxGroup = 9

// checker looks at the commands of a script one by one.
type checker struct {
	extended bool
	letters  map[byte]letter
	nest     int // the blocks that are open
}

// right tells whether the next command is right by itself.
func (k *checker) right(c *api.Command) bool {
	l, told := k.letters[c.Name]
	return told && c.At >= 0 && l.lets(c) && l.unusedAreZero(c) && k.addresses(c) && l.right(k, c)
}

func (l letter) unusedAreZero(c *api.Command) bool {
	return (l.uses&usesText != 0 || c.Text == "") &&
		(l.uses&usesOther != 0 || c.Other == "") &&
		(l.uses&usesN != 0 || c.N == 0) &&
		(l.uses&usesSubst != 0 || sameRegex(&c.Regex, &api.Regex{}) && sameSubst(&c.Subst, &api.Subst{}))
}

func (k *checker) addresses(c *api.Command) bool {
	switch c.First.Kind {
	case api.AddrNone:
		if c.Second.Kind != api.AddrNone {
			return false
		}
	case api.AddrPlus, api.AddrMultiple:
		return false
	}
	return c.Second.Kind != api.AddrStep && mayBeZero(&c.First, &c.Second) && k.address(&c.First) && k.address(&c.Second)
}

// address tells whether an address of any kind has what its kind uses, and nothing else.
func (k *checker) address(a *api.Addr) bool {
	var n, step, regex bool
	switch a.Kind {
	case api.AddrNone, api.AddrLast:
	case api.AddrLine, api.AddrPlus, api.AddrMultiple:
		n = true
	case api.AddrStep:
		n, step = true, true
	case api.AddrRegex:
		regex = true
	default:
		return false
	}
	return rightNumber(a.N, n) && rightNumber(a.Step, step) && (regex && k.regex(&a.Regex) || !regex && sameRegex(&a.Regex, &api.Regex{}))
}

// rightNumber tells whether a number may be that of a line, or is zero where none is used.
func rightNumber(n int, used bool) bool {
	return n == 0 || used && n > 0 && n <= api.MaxNumber
}

func (k *checker) regex(x *api.Regex) bool {
	if x.Last {
		return sameRegex(x, &api.Regex{Last: true})
	}
	if x.Text == "" || strings.Contains(x.Text, "\n") {
		return false
	}
	root, ok := readRegex(x.Text, k.extended)
	return ok && posix.Same(x.Root, root)
}

func (k *checker) open(*api.Command) bool {
	k.nest++
	return k.nest <= api.MaxNest
}

func (k *checker) close(*api.Command) bool {
	k.nest--
	return k.nest >= 0
}

func (k *checker) nothing(*api.Command) bool { return true }

func (k *checker) width(c *api.Command) bool { return c.N >= -1 && c.N <= api.MaxNumber }

func (k *checker) code(c *api.Command) bool { return c.N >= -1 && c.N <= maxCode }

func (k *checker) lines(c *api.Command) bool {
	return len(c.Text) >= 2 && strings.HasSuffix(c.Text, "\n")
}

func (k *checker) label(c *api.Command) bool {
	return c.Text != "" && rightName(c.Text, "\n;")
}

func (k *checker) jump(c *api.Command) bool { return rightName(c.Text, "\n;}") }

// rightName tells whether a text is one that a label may have, or empty.
func rightName(s, ends string) bool {
	return len(s) <= api.MaxLabel && !strings.ContainsAny(s, ends) && strings.Trim(s, blanks) == s
}

func (k *checker) file(c *api.Command) bool { return rightFile(c.Text) }

func rightFile(s string) bool {
	return s != "" && len(s) <= api.MaxPath && rightLine(s)
}

func (k *checker) shell(c *api.Command) bool { return rightLine(c.Text) }

// rightLine tells whether a text can stand behind blanks up to the end of a line.
func rightLine(s string) bool {
	return !strings.Contains(s, "\n") && strings.TrimLeft(s, blanks) == s
}

func (k *checker) table(c *api.Command) bool { return isTable(c.Text, c.Other) }

func (k *checker) subst(c *api.Command) bool {
	s := &c.Subst
	return k.regex(&c.Regex) && rightNumber(s.Number, true) && (s.File == "" || rightFile(s.File)) && rightPieces(s.Pieces) && knows(&c.Regex, s.Pieces)
}

func rightPieces(l []api.Piece) bool {
	for i, p := range l {
		if !rightPiece(p) || p.Kind == api.PieceText && i > 0 && l[i-1].Kind == api.PieceText {
			return false
		}
	}
	return true
}

// rightPiece tells whether a piece has what its kind uses, and nothing else.
func rightPiece(p api.Piece) bool {
	switch p.Kind {
	case api.PieceText:
		return p.Text != "" && p.N == 0
	case api.PieceGroup:
		return p.Text == "" && p.N >= 0 && p.N <= maxGroup
	}
	return p == api.Piece{Kind: p.Kind} && p.Kind != api.PieceNone && p.Kind < api.PieceCount
}
