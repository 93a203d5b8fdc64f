package deriv

import (
	"slices"

	"paddock/api"
)

// wordBits is how many bytes a word of a set has.
const wordBits = 64

func has(s *api.Set, c byte) bool { return s[c/wordBits]>>(c%wordBits)&1 == 1 }

// side is a program with its situations, which have numbers as they are come to; 0 is that of the empty text. A situation is told by a text of its instructions: two bytes each, rising.
type side struct {
	code    []api.Inst
	met     []int // of each instruction, the last look in which it was met
	looks   int
	texts   []string
	numbers map[string]int
	moves   map[move]int // the situations behind a byte that were asked for
}

// move goes from a situation over a byte.
type move struct {
	from int
	over byte
}

func newSide(p api.Prog) *side {
	s := &side{code: p.Code, met: make([]int, len(p.Code)), numbers: map[string]int{}, moves: map[move]int{}}
	s.stand([]int{0})
	return s
}

// stand is the situation of runs that stand ahead of some instructions.
func (s *side) stand(left []int) int {
	s.looks++
	var here []int
	for len(left) > 0 {
		last := len(left) - 1
		i := left[last]
		left = left[:last]
		if s.met[i] == s.looks {
			continue
		}
		s.met[i] = s.looks
		switch x := &s.code[i]; x.Kind {
		case api.InstSet, api.InstMatch:
			here = append(here, i)
		case api.InstSplit:
			left = append(left, x.To, i+1)
		case api.InstJump:
			left = append(left, x.To)
		default:
			left = append(left, i+1)
		}
	}
	return s.number(text(here))
}

func text(insts []int) string {
	slices.Sort(insts)
	out := make([]byte, 0, 2*len(insts))
	for _, i := range insts {
		out = append(out, byte(i>>8), byte(i))
	}
	return string(out)
}

func (s *side) number(text string) int {
	n, ok := s.numbers[text]
	if !ok {
		n = len(s.texts)
		s.texts = append(s.texts, text)
		s.numbers[text] = n
	}
	return n
}

// behind is the situation behind a byte.
func (s *side) behind(from int, over byte) int {
	m := move{from, over}
	to, ok := s.moves[m]
	if !ok {
		to = s.stand(s.over(s.texts[from], over))
		s.moves[m] = to
	}
	return to
}

// over are the instructions behind those of a situation that take a byte.
func (s *side) over(text string, c byte) []int {
	var out []int
	for k := 0; k < len(text); k += 2 {
		i := int(text[k])<<8 | int(text[k+1])
		if has(&s.code[i].Set, c) {
			out = append(out, i+1)
		}
	}
	return out
}

// ends tells whether a situation has InstMatch: it is the last instruction.
func (s *side) ends(situation int) bool {
	t := s.texts[situation]
	return len(t) > 0 && int(t[len(t)-2])<<8|int(t[len(t)-1]) == len(s.code)-1
}
