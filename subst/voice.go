package subst

import (
	"strings"

	"paddock/api"
)

// voice says pieces of a text, for one match after another.
type voice struct {
	pieces []api.Piece
	text   string
	spans  []api.Span // those of the match that is spoken of
	byKind [api.PieceCount]func(*voice, api.Piece) string
	cases  *[lettersCount]table // nil till a letter is turned: most replacements turn none
	held   letters
	next   letters // of the next byte alone, if it is not to be as it is
	out    strings.Builder
}

func newVoice(l []api.Piece, s string) *voice {
	return &voice{pieces: l, text: s, byKind: sayers()}
}

// sayers has for each kind what a piece says, as it stands there; of a turn nothing, but it holds from then on.
func sayers() [api.PieceCount]func(*voice, api.Piece) string {
	hold := func(l letters) func(*voice, api.Piece) string {
		return func(v *voice, _ api.Piece) string {
			v.held = l
			return ""
		}
	}
	once := func(l letters) func(*voice, api.Piece) string {
		return func(v *voice, _ api.Piece) string {
			v.next = l
			return ""
		}
	}
	return [api.PieceCount]func(*voice, api.Piece) string{
		api.PieceNone:  func(*voice, api.Piece) string { return "" },
		api.PieceText:  func(_ *voice, p api.Piece) string { return p.Text },
		api.PieceGroup: func(v *voice, p api.Piece) string { return v.group(p.N) },
		api.PieceUpper: hold(upper),
		api.PieceLower: hold(lower),
		api.PieceEnd:   hold(asTheyAre),
		api.PieceFirst: once(upper),
		api.PieceSmall: once(lower),
	}
}

// group is what a group has kept.
func (v *voice) group(number int) string {
	if number < 0 || number >= len(v.spans) || v.spans[number].From < 0 {
		return ""
	}
	return v.text[v.spans[number].From:v.spans[number].To]
}

// each goes through the pieces from the beginning on, and does something with what each says of a match; till that is enough.
func (v *voice) each(m []api.Span, do func(string) bool) {
	v.spans, v.held, v.next = m, asTheyAre, asTheyAre
	for _, p := range v.pieces {
		if p.Kind < api.PieceCount && !do(v.byKind[p.Kind](v, p)) {
			return
		}
	}
}

// length is how many bytes are said of a match; of too many it tells only that.
func (v *voice) length(m []api.Span) int {
	n := 0
	v.each(m, func(s string) bool {
		n += len(s)
		return n <= api.MaxMemory
	})
	return n
}

// say says the pieces of a match.
func (v *voice) say(m []api.Span) {
	v.each(m, func(s string) bool {
		v.write(s)
		return true
	})
}

// turns is what each byte is turned into by a turn of case.
func (v *voice) turns(l letters) *table {
	if v.cases == nil {
		made := cases()
		v.cases = &made
	}
	return &v.cases[l]
}

func (v *voice) write(s string) {
	if s != "" && v.next != asTheyAre {
		v.out.WriteByte(v.turns(v.next)[s[0]])
		v.next = asTheyAre
		s = s[1:]
	}
	if v.held == asTheyAre {
		v.out.WriteString(s)
		return
	}
	t := v.turns(v.held)
	for i := range len(s) {
		v.out.WriteByte(t[s[i]])
	}
}

// named is the greatest number of a group that pieces name.
func named(l []api.Piece) int {
	n := 0
	for _, p := range l {
		if p.Kind == api.PieceGroup {
			n = max(n, p.N)
		}
	}
	return n
}
