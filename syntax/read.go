package syntax

import (
	"strings"

	"paddock/api"
	"paddock/sets"
)

// maxBack is the greatest number of a group that a back-reference can name.
const maxBack = 9

// sign is what the next bytes of an expression are, whichever way it is written.
type sign uint8

const (
	signByte sign = iota
	signOver      // the text ends
	signOpen
	signClose
	signBar
	signStar
	signPlus
	signMaybe
	signBrace
	signBegin
	signEnd
	signAny
	signBracket
	signEscape
)

// plainSign is what a byte alone is in both kinds of expressions.
func plainSign(c byte) sign {
	switch c {
	case '*':
		return signStar
	case '^':
		return signBegin
	case '$':
		return signEnd
	case '.':
		return signAny
	case '[':
		return signBracket
	case '\\':
		return signEscape
	}
	return signByte
}

// markedSign is what a byte is alone in an extended expression, and behind a \ in a basic one.
func markedSign(c byte) sign {
	switch c {
	case '(':
		return signOpen
	case ')':
		return signClose
	case '|':
		return signBar
	case '+':
		return signPlus
	case '?':
		return signMaybe
	case '{':
		return signBrace
	}
	return signByte
}

// reader reads an expression from left to right.
type reader struct {
	text     string
	extended bool
	at       int // the byte that is read next
	begun    int // the groups so far
	nest     int // those of them that have not ended
	ended    [maxBack + 1]bool
}

// look tells the next sign, and of how many bytes it is (the text's end counts as one: its place is the length).
func (r *reader) look() (sign, int) {
	if r.at == len(r.text) {
		return signOver, 1
	}
	c, size := r.text[r.at], 1
	if !r.extended && c == '\\' && r.at+1 < len(r.text) {
		c, size = r.text[r.at+1], 2
	}
	if r.extended || size == 2 {
		if marked := markedSign(c); marked != signByte {
			return marked, size
		}
	}
	return plainSign(r.text[r.at]), 1
}

// refuse gives up at a place with which no expression goes on.
func refuse(at int) { panic(fault{api.ErrSyntax, at}) }

func (r *reader) whole() api.Node {
	n := r.expression()
	if s, size := r.look(); s != signOver {
		refuse(r.at + size - 1)
	}
	return n
}

// expression reads up to the text's end, or to what would end a group.
func (r *reader) expression() api.Node {
	branches := []api.Node{r.branch()}
	for {
		s, size := r.look()
		if s != signBar {
			break
		}
		r.at += size
		branches = append(branches, r.branch())
	}
	if len(branches) == 1 {
		return branches[0]
	}
	return api.Node{Kind: api.NodeAlt, Kids: branches}
}

func (r *reader) branch() api.Node {
	var pieces []api.Node
	for !r.branchEnds() {
		pieces = append(pieces, r.piece(pieces))
	}
	switch len(pieces) {
	case 0:
		return api.Node{Kind: api.NodeEmpty}
	case 1:
		return pieces[0]
	}
	return api.Node{Kind: api.NodeCat, Kids: pieces}
}

func (r *reader) branchEnds() bool {
	s, _ := r.look()
	return s == signOver || s == signBar || s == signClose
}

// piece reads an anchor, or an atom and its repeat, behind some pieces of the same branch.
func (r *reader) piece(ahead []api.Node) api.Node {
	s, size := r.look()
	if !r.extended && r.isByte(s, ahead) {
		s = signByte
	}
	switch s {
	case signBegin:
		r.at++
		return api.Node{Kind: api.NodeBegin}
	case signEnd:
		r.at++
		return api.Node{Kind: api.NodeEnd}
	}
	return r.repeated(r.atom(s, size))
}

// isByte tells whether a sign that a basic expression has in some places only is a byte here.
func (r *reader) isByte(s sign, ahead []api.Node) bool {
	switch s {
	case signStar:
		return len(ahead) == 0 || len(ahead) == 1 && ahead[0].Kind == api.NodeBegin
	case signBegin:
		return len(ahead) > 0
	case signEnd:
		behind := reader{text: r.text, at: r.at + 1}
		return !behind.branchEnds()
	}
	return false
}

func (r *reader) atom(s sign, size int) api.Node {
	switch s {
	case signByte:
		r.at++
		return oneByte(r.text[r.at-1])
	case signAny:
		r.at++
		return oneOf(sets.Not(api.Set{}))
	case signBracket:
		return r.bracket()
	case signEscape:
		return r.escape()
	case signOpen:
		return r.group(size)
	}
	panic(fault{api.ErrSyntax, r.at + size - 1})
}

func oneByte(c byte) api.Node { return oneOf(sets.Range(c, c)) }

func oneOf(s api.Set) api.Node { return api.Node{Kind: api.NodeSet, Set: s} }

func (r *reader) bracket() api.Node {
	begin := r.at + 1
	set, size, why, at := sets.Bracket(r.text[begin:])
	if why != api.OK {
		refuse(begin + at)
	}
	r.at = begin + size
	return oneOf(set)
}

func (r *reader) group(size int) api.Node {
	if r.begun == api.MaxGroups || r.nest == api.MaxNest {
		panic(fault{api.ErrMany, r.at + size - 1})
	}
	r.begun++
	number := r.begun
	r.at += size
	r.nest++
	kid := r.expression()
	r.nest--
	s, size := r.look()
	if s != signClose {
		refuse(r.at)
	}
	r.at += size
	if number <= maxBack {
		r.ended[number] = true
	}
	return api.Node{Kind: api.NodeGroup, Group: number, Kids: []api.Node{kid}}
}

func (r *reader) escape() api.Node {
	r.at++
	if r.at == len(r.text) {
		refuse(r.at)
	}
	c := r.text[r.at]
	r.at++
	if c >= '1' && c <= '0'+maxBack && r.ended[c-'0'] {
		return api.Node{Kind: api.NodeBack, Group: int(c - '0')}
	}
	set, known := escaped(c)
	// Of what is a sign of a basic expression alone, } is all that comes here: the others were seen as signs.
	if !known || !r.extended && c == '}' {
		refuse(r.at - 1)
	}
	return oneOf(set)
}

// escaped is what a byte behind a \ stands for, if it is neither a sign nor a back-reference.
func escaped(c byte) (api.Set, bool) {
	alnum, _ := sets.Class("alnum")
	space, _ := sets.Class("space")
	word := sets.Or(alnum, sets.Range('_', '_'))
	switch c {
	case 'n':
		return sets.Range('\n', '\n'), true
	case 't':
		return sets.Range('\t', '\t'), true
	case 'w':
		return word, true
	case 'W':
		return sets.Not(word), true
	case 's':
		return space, true
	case 'S':
		return sets.Not(space), true
	}
	return sets.Range(c, c), !sets.Has(alnum, c)
}

// repeated reads the repeat of an atom, if one stands behind it.
func (r *reader) repeated(atom api.Node) api.Node {
	s, size := r.look()
	n := api.Node{Kind: api.NodeRepeat, Max: -1, Kids: []api.Node{atom}}
	switch s {
	case signStar:
		r.at += size
	case signPlus:
		r.at += size
		n.Min = 1
	case signMaybe:
		r.at += size
		n.Max = 1
	case signBrace:
		r.at += size
		n.Min, n.Max = r.numbers()
	default:
		return atom
	}
	return n
}

// numbers reads what stands behind the { of a repeat, with its end.
func (r *reader) numbers() (int, int) {
	least := r.number()
	most := least
	if r.next(",") {
		r.at++
		most = -1
		if r.next("0123456789") {
			most = r.number()
			if most < least {
				refuse(r.at)
			}
		}
	}
	if !r.extended {
		r.expect('\\')
	}
	r.expect('}')
	return least, most
}

// next tells whether the next byte is one of some.
func (r *reader) next(of string) bool {
	return r.at < len(r.text) && strings.IndexByte(of, r.text[r.at]) >= 0
}

func (r *reader) expect(c byte) {
	if r.at == len(r.text) || r.text[r.at] != c {
		refuse(r.at)
	}
	r.at++
}

func (r *reader) number() int {
	if !r.next("0123456789") {
		refuse(r.at)
	}
	n := 0
	for r.next("0123456789") {
		n = 10*n + int(r.text[r.at]-'0')
		if n > api.MaxRepeat {
			refuse(r.at)
		}
		r.at++
	}
	return n
}
