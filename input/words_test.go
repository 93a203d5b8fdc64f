package input_test

import (
	"slices"
	"strconv"
	"strings"
	"testing"

	"paddock/api"
	"paddock/input"
)

// answer is what a source has for one input.
type answer struct {
	text string
	why  api.Errno
}

func texts(l ...string) []answer {
	var out []answer
	for _, s := range l {
		out = append(out, answer{text: s})
	}
	return out
}

// gone and failing have texts too: beside an error these are nothing.
func gone() answer                 { return answer{"gone\n", api.ErrNoFile} }
func failing(why api.Errno) answer { return answer{"failing\n", why} }

// source has inputs, and tells which ones it was asked for.
type source struct {
	answers []answer
	asked   []int
}

func (s *source) Input(k int) (string, api.Errno) {
	s.asked = append(s.asked, k)
	return s.answers[k].text, s.answers[k].why
}

// A second reading of the chapter's words: all lines that are there are known from the beginning, and what is answered behind so many takes is counted out of them.

type known struct {
	line api.Line
	at   int
}

type model struct {
	answers  []answer
	separate bool
	lines    []known
	fails    int // the input that ends it; as many as there are, if none does
}

func modelOf(answers []answer, separate bool) model {
	m := model{answers: answers, separate: separate, fails: len(answers)}
	for k, a := range answers {
		if a.why == api.ErrNoFile {
			continue
		}
		if a.why != api.OK {
			m.fails = k
			break
		}
		for _, s := range strings.SplitAfter(a.text, "\n") {
			if s != "" {
				text, whole := strings.CutSuffix(s, "\n")
				m.lines = append(m.lines, known{api.Line{Text: text, Whole: whole}, k})
			}
		}
	}
	return m
}

// asked is how many inputs were asked for, when the line with this number (from 0 on) has been looked for.
func (m model) asked(line int) int {
	if line < len(m.lines) {
		return m.lines[line].at + 1
	}
	return min(m.fails+1, len(m.answers))
}

// err is the error that there is, when the line with this number has been looked for.
func (m model) err(line int) api.Errno {
	if line < len(m.lines) || m.fails == len(m.answers) {
		return api.OK
	}
	return m.answers[m.fails].why
}

// state is all that an Input tells without being changed.
type state struct {
	last       bool
	number, at int
	fresh      bool
	data       string
	passed     bool
	err        api.Errno
	asked      int
}

func told(x *input.Input, s *source) state {
	return state{x.Last(), x.Number(), x.At(), x.Fresh(), x.Data(), x.Passed(), x.Err(), len(s.asked)}
}

// behind is the state when so many lines were taken, and the line with the number looked has been looked for.
func (m model) behind(taken, looked int) state {
	out := state{asked: m.asked(looked), err: m.err(looked)}
	for _, a := range m.answers[:out.asked] {
		out.passed = out.passed || a.why == api.ErrNoFile
	}
	if taken == 0 {
		return out
	}
	at := m.lines[taken-1].at
	out.at, out.data, out.number, out.last = at, m.answers[at].text, taken, taken == len(m.lines)
	first := slices.IndexFunc(m.lines, func(l known) bool { return l.at == at })
	out.fresh = first == taken-1 && first > 0
	if m.separate {
		out.number = taken - first
		out.last = out.last || m.lines[taken].at != at
	}
	return out
}

// name tells answers.
func name(l []answer) string {
	var out []string
	for _, a := range l {
		out = append(out, strconv.Quote(a.text)+" "+strconv.Itoa(int(a.why)))
	}
	return strings.Join(out, ", ")
}

// hold takes all lines, and some more, and holds what is told against the words, behind each take.
func hold(t *testing.T, answers []answer, separate bool) {
	t.Helper()
	m, s := modelOf(answers, separate), &source{answers: answers}
	x := input.New(s, len(answers), separate)
	if x == nil || told(x, s) != m.behind(0, 0) {
		t.Fatalf("New(%s, %v): %#v, not %#v", name(answers), separate, told(x, s), m.behind(0, 0))
	}
	taken, looked := 0, 0
	for range len(m.lines) + 3 {
		var want known
		ok := taken < len(m.lines) && m.err(looked) == api.OK
		if ok {
			looked = taken + 1
			if ok = m.err(looked) == api.OK; ok {
				want = m.lines[taken]
				taken++
			}
		}
		line, got, why := x.Take()
		if line != want.line || got != ok || why != m.err(looked) || told(x, s) != m.behind(taken, looked) {
			t.Fatalf("%s, %v: behind %d lines: Take = %#v, %v, %d; %#v, not %#v", name(answers), separate, taken, line, got, why, told(x, s), m.behind(taken, looked))
		}
	}
	for k, asked := range s.asked {
		if k != asked {
			t.Fatalf("%s: asked for %v", name(answers), s.asked)
		}
	}
}

// 21.1 to 21.3, 21.5 to 21.7: all short rows of inputs, such as are not there and such as fail among them.
func TestAllShort(t *testing.T) {
	some := append(texts("", "\n", "a", "a\n", "a\nb", "\n\nc\n"), gone(), failing(api.ErrDenied), failing(-7))
	rows := [][]answer{nil}
	for i := 0; i < len(rows); i++ {
		hold(t, rows[i], false)
		hold(t, rows[i], true)
		for _, a := range some {
			if len(rows[i]) < 5 {
				rows = append(rows, append(slices.Clip(rows[i]), a))
			}
		}
	}
}

// 21.1, 21.2: each error that there is, and such as there are none, ends it; ErrNoFile alone does not.
func TestEachError(t *testing.T) {
	errors := []api.Errno{-1 << 63, 1<<63 - 1, 999}
	for why := api.Errno(-2); why < 300; why++ {
		errors = append(errors, why)
	}
	for _, why := range errors {
		for _, l := range [][]answer{{failing(why)}, {{"a\n", 0}, failing(why)}, {{"a\nb", 0}, failing(why), {"c", 0}}, {gone(), {"a\n", 0}, {"b\n", 0}, gone(), failing(why), gone(), {"c", 0}}, {failing(why), failing(why)}} {
			hold(t, l, false)
			hold(t, l, true)
		}
	}
}
