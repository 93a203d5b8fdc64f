package spec_test

import (
	"runtime"
	"strconv"
	"strings"
	"testing"

	"paddock/api"
	"paddock/marsh"
	"paddock/rushes"
	"paddock/spec"
)

// 19.1: as many bytes as the spaces may have, and one more: by a line, and by commands.
func TestMostMemory(t *testing.T) {
	const most = api.MaxMemory
	all := strings.Repeat("x", most+1)
	text := func(n int) string { return all[:n] }
	for _, c := range []struct{ s, in string }{{"#n\nx", text(most)}, {"#n\nh", text(most / 2)}, {"#n\ns/^/z/", text(most - 1)}} {
		p := rushes.Read(t, c.s, false)
		m, why := spec.Run(p, api.Options{}, marsh.Inputs(c.in), 9)
		if why != api.OK || m.Stop != api.StopNone || m.Code != 0 || m.Peak != most || m.Steps != 1 {
			t.Errorf("%q at the limit: error %d, %d, code %d, peak %d, steps %d", c.s, why, m.Stop, m.Code, m.Peak, m.Steps)
		}
		runtime.GC() // what was so great is given back ahead of the next one
		m, why = spec.Run(p, api.Options{}, marsh.Inputs(c.in+"x"), 9)
		if why != api.OK || m.Stop != api.StopMemory || m.Code != 4 || len(m.Effects) != 0 || m.Peak > most {
			t.Errorf("%q past the limit: error %d, %d, code %d, peak %d", c.s, why, m.Stop, m.Code, m.Peak)
		}
		runtime.GC()
	}
}

// 19.1, 19.8: what is too much is not done: all is left as it was, but that a line counts as taken.
func TestTooMuchMemory(t *testing.T) {
	many := "s/.*/" + strings.Repeat("&", 1<<15) + "/"
	half := strings.Repeat("x", api.MaxMemory/2)
	for _, c := range []struct {
		s, in         string
		done, line    int
		pattern, hold int
		queue         int
		effects       string
	}{
		{"h", "a\n" + half + "x\n", 2, 2, len(half) + 1, 1, 0, "a\n"},
		{"a x\nh", half + "\n", 2, 1, len(half), 0, 1, ""},
		{"#n\nh;N", half + "\nb\n", 2, 2, len(half), len(half), 0, ""},
		{"i\\\nz\na y\n" + many, strings.Repeat("b", 1<<15+1) + "\n", 3, 1, 1<<15 + 1, 0, 1, "z\n"},
	} {
		p := rushes.Read(t, c.s, false)
		at, why := spec.At(p, api.Options{}, marsh.Inputs(c.in), 9)
		if why != api.OK || !at.Over || at.Stop != api.StopMemory || at.Code != 4 || at.Done != c.done || at.Next != len(p.Steps) || at.Line != c.line || len(at.Pattern) != c.pattern || len(at.Hold) != c.hold || len(at.Queue) != c.queue {
			t.Errorf("%.9q: error %d: %v, stop %d, code %d, done %d, next %d, line %d, %d and %d bytes, %d items", c.s, why, at.Over, at.Stop, at.Code, at.Done, at.Next, at.Line, len(at.Pattern), len(at.Hold), len(at.Queue))
		}
		m, _ := spec.Run(p, api.Options{}, marsh.Inputs(c.in), 9)
		if spec.Text(m.Effects, out, "") != c.effects || m.Stop != api.StopMemory || m.Steps != c.done {
			t.Errorf("%.9q: %d effects, stop %d, steps %d", c.s, len(m.Effects), m.Stop, m.Steps)
		}
		runtime.GC()
	}
}

// 19.1: a script that doubles what it holds comes to the limit soon.
func TestDoubling(t *testing.T) {
	m, why := spec.Run(rushes.Read(t, ":a;G;h;ba", false), api.Options{}, marsh.Inputs("a\n"), 999)
	if why != api.OK || m.Stop != api.StopMemory || m.Code != 4 || m.Peak > api.MaxMemory || m.Peak < api.MaxMemory/4 || len(m.Effects) != 0 {
		t.Error(why, m.Stop, m.Code, m.Peak)
	}
	runtime.GC()
}

// 19.1, 19.8: as many bytes as one place may get, and more: the effect that is too much is not done, nor what comes behind it; a queue that is being written stays.
func TestMostOutput(t *testing.T) {
	const part = api.MaxQuota / 16
	w := marsh.Inputs(strings.Repeat("x", part-1) + "\nb\n")
	times := func(n int) string { return strings.Repeat("p;", n) }
	for _, c := range []struct {
		s     string
		o     api.Options
		done  int
		stop  api.StopKind
		first int // bytes of the pattern space
		queue string
	}{
		// fifteen parts, one less two bytes, and two of the queue: just so many; two more are refused
		{"a x\na y\n" + times(15) + "s/^..//;p", api.Options{Quiet: true}, 19, api.StopOutput, part - 3, "x\ny\n"},
		// fifteen parts, and one with a byte more
		{"a z\n" + times(15) + "s/^/x/;p;=", api.Options{InPlace: true}, 18, api.StopEach, part, "z\n"},
	} {
		p := rushes.Read(t, c.s, false)
		at, why := spec.At(p, c.o, w, 99)
		queue := ""
		for _, x := range at.Queue {
			queue += x.Text
		}
		if why != api.OK || !at.Over || at.Stop != c.stop || at.Code != 4 || at.Done != c.done || at.Line != 1 || len(at.Pattern) != c.first || queue != c.queue {
			t.Errorf("%q: error %d: %v, stop %d, code %d, done %d, line %d, %d bytes, queue %q", c.s, why, at.Over, at.Stop, at.Code, at.Done, at.Line, len(at.Pattern), queue)
		}
		runtime.GC()
	}
}

// 19.1: as many steps as there may be of a great number of cycles; the greatest numbers that a script tells.
func TestGreatNumbers(t *testing.T) {
	n := 200000
	m, why := spec.Run(rushes.Read(t, "$!d;=", false), api.Options{}, marsh.Inputs(strings.Repeat("a\n", n)), api.MaxNumber)
	if why != api.OK || spec.Text(m.Effects, out, "") != strconv.Itoa(n)+"\na\n" || m.Steps != n+1 {
		t.Error(why, m.Stop, m.Steps, len(m.Effects))
	}
	most := strconv.Itoa(api.MaxNumber)
	expect(t, api.Options{Quiet: true}, marsh.Inputs("a\nb\nc\n"), map[string]string{
		"2," + most + "p": "b/c/", most + "p": "", "2,+" + most + "p": "b/c/", "2,~" + most + "p": "b/c/", most + "~" + most + "p": "", "0~" + most + "p": "", "2~" + most + "p": "b/", "s/a/x/" + most + "p": "", "1l " + most: "a$/",
	})
}
