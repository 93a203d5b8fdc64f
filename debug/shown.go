package debug

import (
	"slices"

	"paddock/api"
)

// mostHeld is how many bytes the moments that were shown have together, at most: they can be come to again by a run, and one moment may have as much as a space has.
const mostHeld = 1 << 22

// shown are moments that were shown, and the one at which a run stands.
type shown struct {
	moments map[int]api.Moment // by how many steps were done
	held    int                // the bytes that they have, about
	at      int                // how many steps were done where the run stands
}

// show notes the moment at which a run stands. The others are forgotten when they have become too much.
func (s *shown) show(m api.Moment) {
	s.at = m.Done
	if _, known := s.moments[m.Done]; known {
		return
	}
	size := sizeOf(m)
	if s.held+size > mostHeld {
		clear(s.moments)
		s.held = 0
	}
	s.held += size
	s.moments[m.Done] = m
}

// sizeOf is about how many bytes a moment has.
func sizeOf(m api.Moment) int {
	const own = 128 // of a moment, or an item, without its texts
	size := own + len(m.Pattern) + len(m.Hold)
	for _, x := range m.Queue {
		size += own + len(x.Text)
	}
	return size
}

// now is the moment at which a run stands, in a list of its own.
func (s *shown) now() api.Moment {
	m := s.moments[s.at]
	m.Queue = slices.Clone(m.Queue)
	return m
}
