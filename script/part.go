package script

import (
	"strings"

	"paddock/api"
	"paddock/nfa"
	"paddock/pairs"
	"paddock/posix"
	"paddock/syntax"
)

// part is what stands between two delimiters: its place and its bytes as they are written.
type part struct {
	at   int
	text string
	by   byte
}

// delimiter takes a byte that parts may stand between; false: none stands here.
func (r *reader) delimiter() (byte, bool) {
	if r.over() || r.next("\n\\") {
		return 0, false
	}
	r.at++
	return r.text[r.at-1], true
}

// part takes all up to the next delimiter, and that; false: it is not ended, or an LF stands in it. Kept: one behind a backslash may stand there.
func (r *reader) part(by byte, kept bool) (part, bool) {
	for at, p := range pairs.Each(r.text[r.at:]) {
		if len(p) == 1 && p[0] == by {
			out := part{r.at, r.text[r.at : r.at+at], by}
			r.at += at + 1
			return out, true
		}
		if p == "\n" || p == "\\\n" && !kept {
			break
		}
	}
	return part{}, false
}

// parts takes the two parts of a command, and the delimiters around them.
func (r *reader) parts(c *api.Command, kept bool) (first, second part) {
	by, ok := r.delimiter()
	if ok {
		first, ok = r.part(by, false)
	}
	if ok {
		second, ok = r.part(by, kept)
	}
	if !ok {
		giveUp(c.At, api.RuleParts)
	}
	return first, second
}

// expression is the text of the expression that a part is.
func (p part) expression() string {
	var out strings.Builder
	for _, pair := range pairs.Each(p.text) {
		if len(pair) == 2 && pair[1] == p.by {
			pair = asByte(p.by)
		}
		out.WriteString(pair)
	}
	return out.String()
}

// asByte is how an expression says a delimiter that stands in it: as a byte, whatever else it could mean there.
func asByte(c byte) string {
	text := string([]byte{c})
	switch {
	case c == '^': // in brackets it would be all other bytes
		return "\\^"
	case strings.IndexByte(".[*$+?(){}|", c) >= 0:
		return "[" + text + "]"
	}
	return text
}

func (r *reader) regex(p part) api.Regex {
	text := p.expression()
	if text == "" {
		return api.Regex{Last: true}
	}
	root, ok := readRegex(text, r.extended)
	if !ok {
		giveUp(p.at, api.RuleRegex)
	}
	return api.Regex{Text: text, Root: root}
}

// readRegex is the tree of an expression that a script may have; false: it may not have this one.
func readRegex(text string, extended bool) (api.Node, bool) {
	root, why, _ := syntax.Parse(text, extended)
	if why != api.OK {
		return api.Node{}, false
	}
	_, why = nfa.Size(root)
	return root, why == api.OK
}

// fold lets letters' case not matter. At: where the expression's text begins.
func fold(x *api.Regex, at int) {
	if x.Last {
		giveUp(at, api.RuleRegex)
	}
	x.Fold = true
}

// pieces are those of the replacement that a part is.
func (p part) pieces() []api.Piece {
	var out []api.Piece
	var run []byte
	end := func() {
		if len(run) > 0 {
			out = append(out, api.Piece{Kind: api.PieceText, Text: string(run)})
			run = nil
		}
	}
	turns := turns()
	for _, pair := range pairs.Each(p.text) {
		c := pair[len(pair)-1]
		kind, turned := turns[c]
		switch {
		case pair == "&":
			end()
			out = append(out, api.Piece{Kind: api.PieceGroup})
		case len(pair) == 1 || c == p.by:
			run = append(run, c)
		case c >= '0' && c <= '9':
			end()
			out = append(out, api.Piece{Kind: api.PieceGroup, N: int(c - '0')})
		case turned:
			end()
			out = append(out, api.Piece{Kind: kind})
		default:
			run = append(run, escaped(c))
		}
	}
	end()
	return out
}

// turns has of each letter behind a backslash the turn of case that it is.
func turns() map[byte]api.PieceKind {
	return map[byte]api.PieceKind{'U': api.PieceUpper, 'L': api.PieceLower, 'u': api.PieceFirst, 'l': api.PieceSmall, 'E': api.PieceEnd}
}

// escaped is the byte that one behind a backslash stands for in a replacement.
func escaped(c byte) byte {
	if i := strings.IndexByte("afnrtv", c); i >= 0 {
		return "\a\f\n\r\t\v"[i]
	}
	return c
}

// knows tells whether an expression has all groups that pieces name (of the one that was used last nobody knows).
func knows(x *api.Regex, l []api.Piece) bool {
	if x.Last {
		return true
	}
	groups := posix.Groups(x.Root)
	for _, p := range l {
		if p.Kind == api.PieceGroup && p.N > groups {
			return false
		}
	}
	return true
}

// side is that of a table.
func (p part) side() string {
	var out []byte
	for at, pair := range pairs.Each(p.text) {
		c := pair[len(pair)-1]
		if len(pair) == 2 && c != '\\' && c != p.by {
			if c != 'n' {
				giveUp(p.at+at, api.RuleTable)
			}
			c = '\n'
		}
		out = append(out, c)
	}
	return string(out)
}

// isTable tells whether two sides make a table.
func isTable(left, right string) bool {
	var seen [256]bool
	for i := range len(left) {
		if seen[left[i]] {
			return false
		}
		seen[left[i]] = true
	}
	return len(left) == len(right)
}
