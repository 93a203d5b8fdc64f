package sets

import (
	"strings"

	"paddock/api"
)

// What begins an item that is told in signs of its own.
const (
	openClass = "[:"
	openEqual = "[="
	openDot   = "[."
)

// Bracket reads a bracket expression behind its [: its set, and how many bytes it takes; or the place of its fault.
func Bracket(s string) (api.Set, int, api.Errno, int) {
	at, none := 0, strings.HasPrefix(s, "^")
	if none {
		at++
	}
	var set api.Set
	// The first item is read whatever it begins with: a ] there is a byte as others are.
	for first := true; first || at < len(s) && s[at] != ']'; first = false {
		item, next, ok := readItem(s, at)
		if !ok {
			return api.Set{}, 0, api.ErrBracket, next
		}
		set, at = Or(set, item), next
	}
	if at == len(s) {
		return api.Set{}, 0, api.ErrBracket, at
	}
	if none {
		set = Not(set)
	}
	return set, at + 1, api.OK, 0
}

// readItem reads the item at a place: its set, and the place behind it; false, with the place of the fault, if there is none.
func readItem(s string, at int) (api.Set, int, bool) {
	if strings.HasPrefix(s[at:], openClass) {
		return readClass(s, at)
	}
	if strings.HasPrefix(s[at:], openEqual) {
		c, next, ok := enclosed(s, at)
		return Range(c, c), next, ok
	}
	from, next, ok := readElement(s, at)
	if !ok || !strings.HasPrefix(s[next:], "-") || strings.HasPrefix(s[next:], "-]") {
		return Range(from, from), next, ok
	}
	end := next + 1
	to, next, ok := readElement(s, end)
	if !ok || to < from {
		return api.Set{}, end, false
	}
	return Range(from, to), next, true
}

func readClass(s string, at int) (api.Set, int, bool) {
	begin := at + len(openClass)
	name, _, ended := strings.Cut(s[begin:], ":]")
	set, known := Class(name)
	if !ended || !known {
		return api.Set{}, at, false
	}
	return set, begin + len(name) + len(":]"), true
}

// readElement reads what stands for one byte; false, with its own place, if it does not.
func readElement(s string, at int) (byte, int, bool) {
	rest := s[at:]
	switch {
	case rest == "", strings.HasPrefix(rest, openClass), strings.HasPrefix(rest, openEqual):
		return 0, at, false
	case strings.HasPrefix(rest, openDot):
		return enclosed(s, at)
	case strings.HasPrefix(rest, `\n`):
		return '\n', at + 2, true
	}
	return rest[0], at + 1, true
}

// enclosed reads [=c=] or [.c.], of which the first two bytes are there.
func enclosed(s string, at int) (byte, int, bool) {
	const size = len("[.c.]")
	if len(s)-at < size || s[at+3] != s[at+1] || s[at+4] != ']' {
		return 0, at, false
	}
	return s[at+2], at + size, true
}

// Print writes a bracket expression behind its [, as each set is written in one way alone.
func Print(s api.Set) string {
	var out []byte
	all := Not(api.Set{})
	if s == (api.Set{}) || s != all && Count(s) > byteCount/2 {
		out = append(out, '^')
		s = Not(s)
	}
	for from := 0; from < byteCount; from++ {
		if !Has(s, byte(from)) {
			continue
		}
		to := from
		for to+1 < byteCount && Has(s, byte(to+1)) {
			to++
		}
		out = appendRun(out, byte(from), byte(to))
		from = to
	}
	return string(append(out, ']'))
}

func appendRun(out []byte, from, to byte) []byte {
	out = appendElement(out, from)
	if from == to {
		return out
	}
	if to-from > 1 {
		out = append(out, '-')
	}
	return appendElement(out, to)
}

// appendElement encloses what would mean something else in one place or another.
func appendElement(out []byte, c byte) []byte {
	if strings.IndexByte("[]^-\\\n", c) < 0 {
		return append(out, c)
	}
	return append(out, '[', '.', c, '.', ']')
}
