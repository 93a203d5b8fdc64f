package debug

import (
	"strconv"
	"strings"

	"paddock/api"
	"paddock/lines"
)

// Say writes a moment of a program, a line for each thing.
func Say(p api.Program, m api.Moment) string {
	next := []string{"step", strconv.Itoa(m.Next)}
	if m.Next >= 0 && m.Next < len(p.Steps) {
		next = append(next, lines.Quote(string([]byte{p.Steps[m.Next].Command.Name})))
	}
	out := line(next...) +
		line("line", strconv.Itoa(m.Line)) +
		line("pattern", lines.Quote(m.Pattern)) +
		line("hold", lines.Quote(m.Hold)) +
		line("queue", strconv.Itoa(len(m.Queue))) +
		line("done", strconv.Itoa(m.Done))
	if m.Over {
		out += line("over", strconv.Itoa(int(m.Stop)), strconv.Itoa(m.Code))
	}
	return out
}

// line is words with a blank between, and an LF.
func line(words ...string) string { return strings.Join(words, " ") + "\n" }
