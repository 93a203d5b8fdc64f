package match

import (
	"slices"

	"paddock/api"
)

const (
	// stride is how far apart the places are at which it is kept what lies ahead.
	stride = 16
	// room is how many bytes of that are kept at most.
	room = 1 << 24
	// spotRoom is about what one of them takes beside its text.
	spotRoom = 64
	// mostPassed is how many of one way are kept at most.
	mostPassed = room / spotRoom
)

// plain counts the steps of an expression without back-references: a situation is an instruction and a place. At each place all of its situations are gone through together.
type plain struct {
	course
	met        []int // of each instruction, the last look in which it was met
	looks      int
	now, left  []int
	known      map[spot]int // how many steps there are from some situations on, none of which comes to an InstMatch
	knownBytes int
}

// spot is all situations of a place that were come to from the one ahead, the instructions told as a text.
type spot struct {
	stands string
	at     int
}

func newPlain(c course) *plain {
	return &plain{course: c, met: make([]int, len(c.code)), known: map[spot]int{}}
}

// passed is a spot that was passed, and the steps ahead of it.
type passed struct {
	spot
	steps int
}

// stepsFrom goes from place to place, till nothing is left or what lies ahead is known of an earlier beginning.
func (p *plain) stepsFrom(begin, most int) (int, bool) {
	steps, ends := 0, false
	var way []passed
	p.now = append(p.now[:0], 0)
	for at := begin; len(p.now) > 0 && steps <= most; at++ {
		if at%stride == 0 && len(way) < mostPassed {
			here := spot{p.stands(), at}
			if ahead, ok := p.known[here]; ok {
				steps += ahead
				break
			}
			way = append(way, passed{here, steps})
		}
		more, is := p.look(at)
		steps += more
		ends = ends || is
	}
	if !ends && steps <= most {
		p.keep(way, steps)
	}
	return steps, ends
}

// look goes through all situations of a place; behind it now has those of the next one that they lead to.
func (p *plain) look(at int) (steps int, ends bool) {
	p.looks++
	p.left, p.now = p.now, p.left[:0]
	for len(p.left) > 0 {
		last := len(p.left) - 1
		i := p.left[last]
		p.left = p.left[:last]
		if p.met[i] == p.looks {
			continue
		}
		p.met[i] = p.looks
		steps++
		switch p.code[i].Kind {
		case api.InstMatch:
			ends = true
		case api.InstSet:
			if p.takes(i, at) {
				p.now = append(p.now, i+1)
			}
		default:
			p.left = p.behind(p.left, i, at)
		}
	}
	return steps, ends
}

// stands is a text of the instructions of now: the same for the same ones.
func (p *plain) stands() string {
	slices.Sort(p.now)
	out := make([]byte, 0, 2*len(p.now))
	for _, i := range p.now {
		out = append(out, byte(i>>8), byte(i))
	}
	return string(out)
}

// keep keeps what lies ahead of spots of a way that has so many steps in all. The nearest are kept last: if there is no room for all, it is those that stay, as the next beginnings come to them.
func (p *plain) keep(way []passed, steps int) {
	for _, x := range slices.Backward(way) {
		if p.knownBytes > room {
			p.known, p.knownBytes = map[spot]int{}, 0
		}
		p.known[x.spot] = steps - x.steps
		p.knownBytes += len(x.stands) + spotRoom
	}
}
