package nfa

import (
	"iter"

	"paddock/api"
)

// wordBits is how many bytes a word of a set has.
const wordBits = 64

// run goes through a program over a text, all ways at one time.
type run struct {
	code []api.Inst
	text string
	met  []int // of each instruction, where it was come to last, and 1
	left []int
}

func newRun(p api.Prog, s string) *run {
	return &run{code: p.Code, text: s, met: make([]int, len(p.Code))}
}

// way is one that stands ahead of an instruction, and where it began.
type way struct{ inst, begin int }

// ends yields where ways begin and end, by rising ends up to one; they begin at the places from one to another. Of ways that meet, the one that began first goes on alone; and once one has ended, those that began later are given up: so each that is yielded begins no later than the one ahead of it.
func (r *run) ends(from, latest, until int) iter.Seq2[int, int] {
	return func(yield func(int, int) bool) {
		last := latest
		var now, then []way // by rising beginnings
		for at := from; at <= until && (at <= last || len(now) > 0); at++ {
			if at <= last {
				now = append(now, way{0, at})
			}
			then = then[:0]
			for _, w := range now {
				if w.begin > last {
					break
				}
				for i := range r.states(w.inst, at) {
					if r.code[i].Kind == api.InstSet {
						then = r.over(then, way{i, w.begin}, at)
						continue
					}
					last = w.begin
					if !yield(w.begin, at) {
						return
					}
				}
			}
			now, then = then, now
		}
	}
}

// over puts a way behind the byte at a place, if its instruction has that byte.
func (r *run) over(then []way, w way, at int) []way {
	if at == len(r.text) {
		return then
	}
	if c := r.text[at]; r.code[w.inst].Set[c/wordBits]>>(c%wordBits)&1 == 0 {
		return then
	}
	return append(then, way{w.inst + 1, w.begin})
}

// states yields each InstSet and InstMatch that is come to from an instruction without a byte, and that was not come to at this place yet.
func (r *run) states(first, at int) iter.Seq[int] {
	return func(yield func(int) bool) {
		r.left = append(r.left[:0], first)
		for len(r.left) > 0 {
			i := r.left[len(r.left)-1]
			r.left = r.left[:len(r.left)-1]
			if r.met[i] == at+1 {
				continue
			}
			r.met[i] = at + 1
			if kind := r.code[i].Kind; kind != api.InstSet && kind != api.InstMatch {
				r.goOn(i, at)
			} else if !yield(i) {
				return
			}
		}
	}
}

// goOn leaves to be gone through what comes behind an instruction that takes no byte.
func (r *run) goOn(i, at int) {
	switch x := &r.code[i]; x.Kind {
	case api.InstSplit:
		r.left = append(r.left, x.To, i+1)
	case api.InstJump:
		r.left = append(r.left, x.To)
	case api.InstBegin:
		if at == 0 {
			r.left = append(r.left, i+1)
		}
	case api.InstEnd:
		if at == len(r.text) {
			r.left = append(r.left, i+1)
		}
	default:
		r.left = append(r.left, i+1)
	}
}
