package deriv

import (
	"iter"
	"slices"

	"paddock/api"
)

// search finds the pairs of two expressions.
type search struct {
	a, b  *side
	bytes []byte
	found []found
	known map[pair]struct{}
}

// pair is two situations, as texts.
type pair struct{ a, b string }

// found is a pair that was found: the numbers of its situations, and the pair and the byte by which it was.
type found struct {
	a, b, from int
	by         byte
}

// first is the first text whose pair is such as is asked for, by whether each of its situations has InstMatch; false: there is none.
func first(a, b api.Node, such func(a, b bool) bool) (string, bool, api.Errno) {
	p, why := compile(a)
	if why != api.OK {
		return "", false, why
	}
	q, why := compile(b)
	if why != api.OK {
		return "", false, why
	}
	s := &search{a: newSide(p), b: newSide(q), bytes: apart(p.Code, q.Code), known: map[pair]struct{}{}}
	for i, f := range s.pairs() {
		if i == api.MaxPairs {
			return "", false, api.ErrMany
		}
		if such(s.a.ends(f.a), s.b.ends(f.b)) {
			return s.text(i), true, api.OK
		}
	}
	return "", false, api.OK
}

// apart are the bytes that some set parts from each lesser one: all others lead where one of these does.
func apart(codes ...[]api.Inst) []byte {
	var sets []*api.Set
	seen := map[api.Set]struct{}{}
	for _, code := range codes {
		for i := range code {
			if _, again := seen[code[i].Set]; !again {
				seen[code[i].Set] = struct{}{}
				sets = append(sets, &code[i].Set)
			}
		}
	}
	var out []byte
	lots := map[string]struct{}{}
	for c := range 256 {
		lot := lotOf(byte(c), sets)
		if _, again := lots[lot]; !again {
			lots[lot] = struct{}{}
			out = append(out, byte(c))
		}
	}
	return out
}

// lotOf tells by a text in which sets a byte is.
func lotOf(c byte, sets []*api.Set) string {
	out := make([]byte, len(sets))
	for i, s := range sets {
		if has(s, c) {
			out[i] = 1
		}
	}
	return string(out)
}

// pairs yields each pair with its number, as it is found.
func (s *search) pairs() iter.Seq2[int, found] {
	return func(yield func(int, found) bool) {
		if !s.find(found{}, yield) {
			return
		}
		for i := 0; i < len(s.found); i++ {
			for _, c := range s.bytes {
				f := found{s.a.behind(s.found[i].a, c), s.b.behind(s.found[i].b, c), i, c}
				if !s.find(f, yield) {
					return
				}
			}
		}
	}
}

// find yields a pair, if it is a new one and something of it is left.
func (s *search) find(f found, yield func(int, found) bool) bool {
	p := pair{s.a.texts[f.a], s.b.texts[f.b]}
	if _, again := s.known[p]; again || p == (pair{}) {
		return true
	}
	s.known[p] = struct{}{}
	s.found = append(s.found, f)
	return yield(len(s.found)-1, f)
}

// text is the first one that leads to a pair: over the bytes by which it, and those on the way to it, were found.
func (s *search) text(i int) string {
	var out []byte
	for ; i > 0; i = s.found[i].from {
		out = append(out, s.found[i].by)
	}
	slices.Reverse(out)
	return string(out)
}
