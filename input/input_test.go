package input_test

import (
	"math/rand"
	"slices"
	"strings"
	"testing"

	"paddock/api"
	"paddock/engine"
	"paddock/input"
	"paddock/lines"
	"paddock/marsh"
)

// take takes a line, of which all is known.
func take(t *testing.T, x *input.Input, want api.Line) {
	t.Helper()
	if l, ok, why := x.Take(); l != want || !ok || why != api.OK {
		t.Errorf("Take = %v, %v, %d, not %v", l, ok, why, want)
	}
}

func takeNone(t *testing.T, x *input.Input, want api.Errno) {
	t.Helper()
	for range 3 {
		if l, ok, why := x.Take(); l != (api.Line{}) || ok || why != want {
			t.Errorf("Take = %v, %v, %d, not error %d", l, ok, why, want)
		}
	}
}

// The chapter's examples.
func TestExamples(t *testing.T) {
	a, b, c := api.Line{Text: "a", Whole: true}, api.Line{Text: "b"}, api.Line{Text: "c", Whole: true}
	s := &source{answers: texts("a\nb", "c\n")}
	x := input.New(s, 2, false)
	take(t, x, a)
	if x.Number() != 1 || x.Last() || !slices.Equal(s.asked, []int{0}) {
		t.Error("1:", told(x, s))
	}
	take(t, x, b)
	if x.Last() || !slices.Equal(s.asked, []int{0, 1}) {
		t.Error("1:", told(x, s))
	}
	take(t, x, c)
	if !x.Last() || x.Number() != 3 || x.At() != 1 || !x.Fresh() || x.Data() != "c\n" {
		t.Error("1:", told(x, s))
	}
	takeNone(t, x, api.OK)
	x = input.New(&source{answers: texts("a\nb", "c\n")}, 2, true)
	take(t, x, a)
	take(t, x, b)
	if !x.Last() || x.Number() != 2 || x.Data() != "a\nb" {
		t.Error("1: b", x.Last(), x.Number())
	}
	take(t, x, c)
	if !x.Last() || x.Number() != 1 {
		t.Error("1: c", x.Last(), x.Number())
	}

	s = &source{answers: []answer{{"", 0}, gone(), {"x", 0}}}
	x = input.New(s, 3, false)
	if !slices.Equal(s.asked, []int{0, 1, 2}) || !x.Passed() {
		t.Error("2:", told(x, s))
	}
	take(t, x, api.Line{Text: "x"})
	if x.At() != 2 || !x.Last() || x.Fresh() {
		t.Error("2:", told(x, s))
	}

	s = &source{answers: []answer{{"a\nb", 0}, failing(api.ErrDenied)}}
	x = input.New(s, 2, false)
	take(t, x, a)
	if x.Err() != api.OK {
		t.Error("3:", told(x, s))
	}
	takeNone(t, x, api.ErrDenied)
	if x.Err() != api.ErrDenied || x.Number() != 1 || x.Last() || x.Data() != "a\nb" || !slices.Equal(s.asked, []int{0, 1}) {
		t.Error("3:", told(x, s))
	}
}

// 21.1: how many inputs there may be, at the edges and one past them; a source that is nil. What is refused asks for nothing.
func TestNew(t *testing.T) {
	answers := append(slices.Repeat([]answer{gone()}, api.MaxFiles-1), texts("x\ny", "z")...)
	for _, separate := range []bool{false, true} {
		for _, n := range []int{-1 << 63, -1, api.MaxFiles + 1, 1 << 32, 1<<63 - 1} {
			s := &source{answers: answers}
			if x := input.New(s, n, separate); x != nil || len(s.asked) != 0 {
				t.Errorf("New of %d inputs = %v, asked %v", n, x, s.asked)
			}
		}
		for _, n := range []int{-1, 0, 1, api.MaxFiles} {
			if x := input.New(nil, n, separate); x != nil {
				t.Errorf("New of no source, %d = %v", n, x)
			}
		}
		s := &source{answers: answers}
		x := input.New(s, 0, separate)
		if x == nil || x.Passed() || x.Err() != api.OK {
			t.Errorf("New of no input = %v", x)
		}
		takeNone(t, x, api.OK)
		if len(s.asked) != 0 || told(x, s) != (state{}) {
			t.Error("no input:", told(x, s))
		}
		hold(t, answers[:api.MaxFiles], separate)
		hold(t, slices.Repeat(texts("a\nb"), api.MaxFiles), separate)
		hold(t, slices.Repeat(texts(""), api.MaxFiles), separate)
	}
}

// 21.1: fewer inputs than the source has: the others are not asked for.
func TestFewer(t *testing.T) {
	s := &source{answers: texts("a\n", "b\n", "c\n")}
	x := input.New(s, 2, false)
	take(t, x, api.Line{Text: "a", Whole: true})
	take(t, x, api.Line{Text: "b", Whole: true})
	if !x.Last() || !slices.Equal(s.asked, []int{0, 1}) {
		t.Error(told(x, s))
	}
	takeNone(t, x, api.OK)
	if !slices.Equal(s.asked, []int{0, 1}) {
		t.Error(s.asked)
	}
}

// 21.4: a nil Input.
func TestNil(t *testing.T) {
	var x *input.Input
	takeNone(t, x, api.ErrNil)
	if x.Err() != api.ErrNil || x.Last() || x.Number() != 0 || x.At() != 0 || x.Fresh() || x.Passed() || x.Data() != "" {
		t.Error(x.Err(), x.Last(), x.Number(), x.At(), x.Fresh(), x.Passed(), x.Data())
	}
}

// 21.5: whatever bytes, the lines are lines.Split of the inputs that are there.
func TestAllLines(t *testing.T) {
	chance := rand.New(rand.NewSource(215)).Intn
	letters := "a\n\n\r\x00\xff\\"
	for range 3000 {
		var answers []answer
		var want []api.Line
		for range chance(6) {
			if chance(4) == 0 {
				answers = append(answers, gone())
				continue
			}
			var text []byte
			for range chance(12) {
				text = append(text, letters[chance(len(letters))])
			}
			answers = append(answers, answer{text: string(text)})
			want = append(want, lines.Split(string(text))...)
		}
		s := &source{answers: answers}
		x := input.New(s, len(answers), chance(2) == 0)
		var got []api.Line
		for line, ok, why := x.Take(); ok; line, ok, why = x.Take() {
			got = append(got, line)
			if why != api.OK || len(got) > len(want) {
				t.Fatalf("%s: %#v, error %d", name(answers), got, why)
			}
		}
		if !slices.Equal(got, want) || len(s.asked) != len(answers) {
			t.Fatalf("%s: %#v, not %#v; asked for %v", name(answers), got, want, s.asked)
		}
		hold(t, answers, false)
		hold(t, answers, true)
	}
}

// 21.2, 21.3: in a world the lines, and what is told of them, are those that the engine takes.
func TestAsTheEngine(t *testing.T) {
	chance := rand.New(rand.NewSource(21)).Intn
	for range 3000 {
		w, separate := marsh.World(chance), chance(2) == 0
		x, e := input.New(marsh.Source(w.Inputs), len(w.Inputs), separate), engine.Over(w, api.Program{}, separate)
		for more := true; more; {
			got, ok, why := x.Take()
			want, there, no := e.Take()
			named := !there || e.Name() == w.Inputs[x.At()].Name
			if got != want || ok != there || why != no || x.Last() != e.Last() || x.Number() != e.Number() || (separate && x.Fresh()) != e.Fresh() || x.Passed() != e.Passed() || !named {
				t.Fatalf("%s, %v: %v, %v, %d; not %v, %v, %d", marsh.ShowWorld(w), separate, got, ok, why, want, there, no)
			}
			more = ok
		}
	}
}

// P4: two inputs of one kind have nothing to do with one another.
func TestTwo(t *testing.T) {
	one, two := &source{answers: texts("a\nb\n", "c")}, &source{answers: texts("1\n", "2")}
	x, y := input.New(one, 2, false), input.New(two, 2, true)
	take(t, x, api.Line{Text: "a", Whole: true})
	take(t, y, api.Line{Text: "1", Whole: true})
	take(t, x, api.Line{Text: "b", Whole: true})
	take(t, x, api.Line{Text: "c"})
	if x.Number() != 3 || x.At() != 1 || y.Number() != 1 || y.At() != 0 || y.Data() != "1\n" || !y.Last() {
		t.Error(told(x, one), told(y, two))
	}
}

// 21.5: many lines, and a long one, cost no more than their bytes.
func TestLong(t *testing.T) {
	const many = 1 << 20
	text := strings.Repeat("line\n", many)
	long := strings.Repeat("x", 8<<20)
	x := input.New(&source{answers: texts(text, long)}, 2, false)
	for i := range many {
		line, ok, why := x.Take()
		if line.Text != "line" || !line.Whole || !ok || why != api.OK || x.Number() != i+1 || x.Last() || x.At() != 0 || len(x.Data()) != len(text) {
			t.Fatal(i, line, ok, why)
		}
	}
	if line, ok, why := x.Take(); line.Text != long || line.Whole || !ok || why != api.OK || !x.Last() || x.Data() != long {
		t.Error("the long line:", len(line.Text), ok, why)
	}
	takeNone(t, x, api.OK)
}
