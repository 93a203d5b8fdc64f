package subst_test

import (
	"strconv"
	"strings"

	"paddock/api"
	"paddock/posix"
	"paddock/twigs"
)

// A second reading of the chapter's words, without a care for time.

func text(s string) api.Piece { return api.Piece{Kind: api.PieceText, Text: s} }

func group(number int) api.Piece { return api.Piece{Kind: api.PieceGroup, N: number} }

func turn(kind api.PieceKind) api.Piece { return api.Piece{Kind: kind} }

// pieces are those of a replacement as a script has it, without marks.
func pieces(s string) []api.Piece {
	kinds := map[byte]api.PieceKind{'U': api.PieceUpper, 'L': api.PieceLower, 'E': api.PieceEnd, 'u': api.PieceFirst, 'l': api.PieceSmall}
	var out []api.Piece
	for i := 0; i < len(s); i++ {
		switch {
		case s[i] == '&':
			out = append(out, group(0))
		case s[i] == '\\' && s[i+1] >= '0' && s[i+1] <= '9':
			i++
			out = append(out, group(int(s[i]-'0')))
		case s[i] == '\\':
			i++
			out = append(out, turn(kinds[s[i]]))
		default:
			out = append(out, text(s[i:i+1]))
		}
	}
	return out
}

func inCase(c byte, up bool) byte {
	switch {
	case up && 'a' <= c && c <= 'z':
		return c - 32
	case !up && 'A' <= c && c <= 'Z':
		return c + 32
	}
	return c
}

// plainly is what a piece says, but for turns.
func plainly(p api.Piece, s string, m []api.Span) string {
	switch p.Kind {
	case api.PieceText:
		return p.Text
	case api.PieceGroup:
		if p.N >= 0 && p.N < len(m) && m[p.N] != (api.Span{From: -1, To: -1}) {
			return s[m[p.N].From:m[p.N].To]
		}
	}
	return ""
}

// said asks of each byte which turns stand ahead of it.
func said(l []api.Piece, s string, m []api.Span) string {
	var out []byte
	for i, p := range l {
		for k, c := range []byte(plainly(p, s, m)) {
			if up, ok := onceAhead(l[:i], s, m); ok && k == 0 {
				c = inCase(c, up)
			} else if up, ok := heldAhead(l[:i]); ok {
				c = inCase(c, up)
			}
			out = append(out, c)
		}
	}
	return string(out)
}

func heldAhead(l []api.Piece) (up, ok bool) {
	for _, p := range l {
		switch p.Kind {
		case api.PieceUpper:
			up, ok = true, true
		case api.PieceLower:
			up, ok = false, true
		case api.PieceEnd:
			ok = false
		}
	}
	return up, ok
}

func onceAhead(l []api.Piece, s string, m []api.Span) (up, ok bool) {
	for i := len(l) - 1; i >= 0 && plainly(l[i], s, m) == ""; i-- {
		if l[i].Kind == api.PieceFirst || l[i].Kind == api.PieceSmall {
			return l[i].Kind == api.PieceFirst, true
		}
	}
	return false, false
}

// look is a place from which a match is looked for; what is found; whether it is taken.
type look struct {
	from  int
	m     []api.Span
	taken bool
}

// looks are all of posix.All, and the last one, that finds nothing, if there is one.
func looks(n api.Node, s string, fold bool) []look {
	var out []look
	end := -1 // of the last one that was taken
	for place := 0; place <= len(s); {
		m, ok, _ := posix.Match(n, s, place, fold)
		if !ok {
			return append(out, look{from: place})
		}
		empty := m[0].From == m[0].To
		taken := !empty || m[0].From != end
		out = append(out, look{place, m, taken})
		if taken {
			end = m[0].To
		}
		place = m[0].To
		if empty {
			place++
		}
	}
	return out
}

// replaced are the matches that are replaced.
func replaced(c api.Subst, n api.Node, s string, fold bool) [][]api.Span {
	number := 1
	if c.Number > 0 {
		number = c.Number
	}
	var out [][]api.Span
	taken := 0
	for _, l := range looks(n, s, fold) {
		if !l.taken {
			continue
		}
		taken++
		if taken == number || taken > number && c.Global {
			out = append(out, l.m)
		}
	}
	return out
}

// applied is s from its end on, so that places ahead stay what they are.
func applied(c api.Subst, n api.Node, s string, fold bool) (string, int) {
	l := replaced(c, n, s, fold)
	out := s
	for i := len(l) - 1; i >= 0; i-- {
		out = out[:l[i][0].From] + said(c.Pieces, s, l[i]) + out[l[i][0].To:]
	}
	return out, len(l)
}

func triesByWords(c api.Subst, n api.Node, s string, fold bool) []int {
	var out []int
	l := replaced(c, n, s, fold)
	for _, x := range looks(n, s, fold) {
		out = append(out, x.from)
		if !c.Global && len(l) > 0 && x.taken && x.m[0] == l[0][0] {
			break
		}
	}
	return out
}

func tableByWords(from, to, s string) string {
	var out []byte
	for _, c := range []byte(s) {
		if i := strings.IndexByte(from, c); i >= 0 && i < len(to) {
			c = to[i]
		}
		out = append(out, c)
	}
	return string(out)
}

// growPieces are some by chance: kinds that there are not, and groups that there are not, too.
func growPieces(chance func(int) int, most int) []api.Piece {
	var out []api.Piece
	for range chance(most + 1) {
		switch chance(4) {
		case 0:
			out = append(out, text(twigs.Text(chance, "abXY-", 3)))
		case 1:
			out = append(out, group([]int{-1 << 63, -1, 0, 0, 0, 1, 1, 1, 2, 3, 99, 1<<63 - 1}[chance(12)]))
		default:
			out = append(out, api.Piece{Kind: api.PieceKind(chance(int(api.PieceCount) + 2)), N: chance(3), Text: "t"})
		}
	}
	if chance(20) == 0 {
		out = append(out, turn(255))
	}
	return out
}

func growSubst(chance func(int) int) api.Subst {
	return api.Subst{
		Pieces: growPieces(chance, 6),
		Number: []int{-1 << 63, -1, 0, 0, 1, 1, 2, 3, 4, 5, 6, 1 << 30, 1<<63 - 1}[chance(13)],
		Global: chance(2) == 0,
		Print:  chance(2) == 0,
		Exec:   chance(2) == 0,
		File:   []string{"", "f"}[chance(2)],
	}
}

func show(l []api.Piece) string {
	var out []string
	for _, p := range l {
		out = append(out, strconv.Itoa(int(p.Kind))+":"+strconv.Itoa(p.N)+":"+strconv.Quote(p.Text))
	}
	return strings.Join(out, " ")
}
