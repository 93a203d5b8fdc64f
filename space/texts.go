package space

import (
	"bytes"
	"slices"

	"paddock/api"
)

// Set puts a text in the pattern space.
func (s *Space) Set(text string) api.Errno {
	return s.ask(func(t *texts) (int, func()) {
		return len(text) - len(t.pattern), func() { t.pattern = []byte(text) }
	})
}

// Join puts a line feed and a text behind what the pattern space has.
func (s *Space) Join(text string) api.Errno {
	return s.ask(func(t *texts) (int, func()) {
		return 1 + len(text), func() { t.pattern = joined(t.pattern, text) }
	})
}

// Get is g: the pattern space becomes what the hold space is.
func (s *Space) Get() api.Errno {
	return s.ask(func(t *texts) (int, func()) {
		return len(t.hold) - len(t.pattern), func() { t.pattern = bytes.Clone(t.hold) }
	})
}

// GetMore is G: the hold space comes behind the pattern space.
func (s *Space) GetMore() api.Errno {
	return s.ask(func(t *texts) (int, func()) {
		return 1 + len(t.hold), func() { t.pattern = joined(t.pattern, t.hold) }
	})
}

// Put is h: the hold space becomes what the pattern space is.
func (s *Space) Put() api.Errno {
	return s.ask(func(t *texts) (int, func()) {
		return len(t.pattern) - len(t.hold), func() { t.hold = bytes.Clone(t.pattern) }
	})
}

// PutMore is H: the pattern space comes behind the hold space.
func (s *Space) PutMore() api.Errno {
	return s.ask(func(t *texts) (int, func()) {
		return 1 + len(t.pattern), func() { t.hold = joined(t.hold, t.pattern) }
	})
}

// Swap is x: both change places.
func (s *Space) Swap() api.Errno {
	return s.ask(func(t *texts) (int, func()) {
		return 0, func() { t.pattern, t.hold = t.hold, t.pattern }
	})
}

// Drop takes the pattern space's first line out, with its line feed, and tells whether it had one.
func (s *Space) Drop() (bool, api.Errno) {
	more := false
	why := s.ask(func(t *texts) (int, func()) {
		_, rest, found := bytes.Cut(t.pattern, []byte{lf})
		return len(rest) - len(t.pattern), func() { t.pattern, more = rest, found }
	})
	return more, why
}

// joined is a text with a line feed and another one behind it. It grows where it stands, as a script that joins line by line would else copy all of them for each.
func joined[T []byte | string](to []byte, line T) []byte {
	to = append(slices.Grow(to, 1+len(line)), lf)
	return append(to, line...)
}
