package match

import "paddock/api"

const (
	// wordBits is how many bytes a word of a set has.
	wordBits = 64
	// letters is the word of a set that has all letters; within it lower case is that much above upper case.
	letters = 'A' / wordBits
	above   = 'a' - 'A'
	// upper are the bits of the letters in upper case.
	upper = (1<<26 - 1) << ('A' % wordBits)
)

// course is a program over a text. If case does not matter, the text is all in lower case, and each set has the letters in lower case that it has in either: so nobody behind it has to ask.
type course struct {
	code []api.Inst
	text string
}

// newCourse takes a code that is its own from there on.
func newCourse(code []api.Inst, s string, fold bool) course {
	if !fold {
		return course{code, s}
	}
	for i := range code {
		w := &code[i].Set[letters]
		*w |= *w & upper << above
	}
	text := []byte(s)
	for i, c := range text {
		if c >= 'A' && c <= 'Z' {
			text[i] = c + above
		}
	}
	return course{code, string(text)}
}

// takes tells whether the byte at a place is in the Set of an instruction.
func (c *course) takes(i, at int) bool {
	if at == len(c.text) {
		return false
	}
	b := c.text[at]
	return c.code[i].Set[b/wordBits]>>(b%wordBits)&1 == 1
}

// behind adds to a list the instructions to which one that takes no byte goes on.
func (c *course) behind(l []int, i, at int) []int {
	switch x := &c.code[i]; x.Kind {
	case api.InstSplit:
		return append(l, x.To, i+1)
	case api.InstJump:
		return append(l, x.To)
	case api.InstBegin:
		if at != 0 {
			return l
		}
	case api.InstEnd:
		if at != len(c.text) {
			return l
		}
	}
	return append(l, i+1)
}
