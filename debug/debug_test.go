package debug_test

import (
	"strings"
	"testing"

	"paddock/api"
	"paddock/debug"
	"paddock/marsh"
	"paddock/rushes"
	"paddock/spec"
)

// began is a debugger of a right program.
func began(t *testing.T, p api.Program, o api.Options, w api.World) *debug.Debugger {
	t.Helper()
	d, why := debug.New(p, o, w)
	if why != api.OK || d == nil {
		t.Fatalf("New: error %d of\n%s", why, rushes.Show(p))
	}
	return d
}

// at asks that a call answered a moment that begins so.
func at(t *testing.T, what string, m api.Moment, why api.Errno, want string) {
	t.Helper()
	if got := marsh.ShowMoment(m); why != api.OK || !strings.HasPrefix(got, want) {
		t.Errorf("%s: %s, error %d; not %s", what, got, why, want)
	}
}

// refused asks that a call answered an error, and nothing beside it.
func refused(t *testing.T, what string, m api.Moment, why, want api.Errno) {
	t.Helper()
	if why != want || marsh.ShowMoment(m) != marsh.ShowMoment(api.Moment{}) {
		t.Errorf("%s: %s, error %d, not %d", what, marsh.ShowMoment(m), why, want)
	}
}

// The chapter's examples.
func TestExamples(t *testing.T) {
	p := rushes.Read(t, "p;s/a/b/;=", false)
	d := began(t, p, api.Options{}, marsh.Inputs("a\nb\n"))
	at(t, "Now", d.Now(), api.OK, `done 0; next 0; line 1; "a"; ""; over false`)
	if s := debug.Say(p, d.Now()); s != "step 0 \"p\"\nline 1\npattern \"a\"\nhold \"\"\nqueue 0\ndone 0\n" {
		t.Errorf("Say: %q", s)
	}
	m, why := d.Go(1)
	at(t, "Go(1)", m, why, "done 1; next 1; line 1;")
	if s := spec.Text(d.Effects(), api.EffectOut, ""); s != "a\n" || len(d.Effects()) != 1 {
		t.Errorf("Effects: %q", s)
	}
	m, why = d.Go(2)
	at(t, "Go(2)", m, why, `done 3; next 0; line 2; "b"`)

	d = began(t, p, api.Options{}, marsh.Inputs("a\nb\n"))
	if d.Break(1) != api.OK {
		t.Error("Break(1)")
	}
	m, why = d.Go(9)
	at(t, "Go(9)", m, why, "done 1; next 1")
	m, why = d.Go(9)
	at(t, "Go(9) once more", m, why, "done 4; next 1")
	m, why = d.Back(4)
	at(t, "Back(4)", m, why, "done 0; next 0")
	if d.Clear(1) != api.OK {
		t.Error("Clear(1)")
	}
	m, why = d.Go(99)
	at(t, "Go(99)", m, why, `done 6; next 3; line 2; "b"; ""; over true; stop 0; code 0`)
	m, why = d.Back(7)
	refused(t, "Back(7)", m, why, api.ErrRange)
	at(t, "Now", d.Now(), api.OK, "done 6; next 3")
}

// 27.1: New has spec.Run's errors, in its order; without one it stands ahead of the first step, or at the end, if there is none.
func TestNew(t *testing.T) {
	right, wrong := rushes.Read(t, "p", false), api.Program{Steps: []api.Step{{Command: api.Command{Name: 'k'}}}}
	world, none := marsh.Inputs("a\n"), api.World{Inputs: []api.Text{{}}}
	for _, c := range []struct {
		p api.Program
		w api.World
	}{{right, world}, {wrong, world}, {right, none}, {wrong, none}, {api.Program{}, api.World{}}} {
		_, want := spec.Run(c.p, api.Options{}, c.w, 0)
		d, why := debug.New(c.p, api.Options{}, c.w)
		if why != want || (d == nil) != (why != api.OK) {
			t.Errorf("New: error %d, not %d", why, want)
		}
	}
	if _, why := debug.New(wrong, api.Options{}, none); why != api.ErrProgram {
		t.Error("a wrong program in a wrong world: error", why)
	}
	if _, why := debug.New(right, api.Options{}, none); why != api.ErrWorld {
		t.Error("a wrong world: error", why)
	}
	many := func(n int) api.World {
		return api.World{Inputs: make([]api.Text, n)}
	}
	for n, want := range map[int]api.Errno{api.MaxFiles: api.OK, api.MaxFiles + 1: api.ErrWorld} {
		w := many(n)
		for i := range w.Inputs {
			w.Inputs[i] = api.Text{Name: "x"}
		}
		if _, why := debug.New(right, api.Options{}, w); why != want {
			t.Errorf("%d inputs: error %d, not %d", n, why, want)
		}
	}
	extended := rushes.Read(t, "s/(a)+/\\1/", true)
	d := began(t, extended, api.Options{}, world)
	at(t, "an extended one", d.Now(), api.OK, `done 0; next 0; line 1; "a"`)
	d = began(t, api.Program{}, api.Options{}, world)
	at(t, "of no step", d.Now(), api.OK, `done 0; next 0; line 1; "a"; ""; over true; stop 0; code 0`)
	if s := spec.Text(d.Effects(), api.EffectOut, ""); s != "a\n" {
		t.Errorf("of no step: %q", s)
	}
	d = began(t, right, api.Options{}, api.World{Inputs: []api.Text{{Name: "x", Gone: true}}})
	at(t, "of no line", d.Now(), api.OK, `done 0; next 1; line 0; ""; ""; over true; stop 0; code 2`)
	d = began(t, right, api.Options{Quiet: true}, world)
	d.Go(9)
	if s := spec.Text(d.Effects(), api.EffectOut, ""); s != "a\n" {
		t.Errorf("quiet: %q", s)
	}
}

// 27.2: breaks stand at the numbers of steps alone.
func TestBreaks(t *testing.T) {
	p, w := rushes.Read(t, "p;=;p", false), marsh.Inputs("a\nb\n")
	d := began(t, p, api.Options{}, w)
	for _, step := range []int{-1 << 63, -1, 3, 4, 1<<63 - 1} {
		if d.Break(step) != api.ErrRange || d.Clear(step) != api.ErrRange {
			t.Errorf("%d is no step", step)
		}
	}
	m, why := d.Go(99)
	at(t, "without breaks", m, why, "done 6; next 3")
	d.Back(6)
	for range 2 { // twice is as once
		if d.Break(0) != api.OK || d.Break(2) != api.OK {
			t.Error("0 and 2 are steps")
		}
	}
	for _, want := range []string{"done 2; next 2", "done 3; next 0", "done 5; next 2", "done 6; next 3", "done 6; next 3"} {
		m, why = d.Go(99)
		at(t, "with breaks at 0 and 2", m, why, want)
	}
	d.Back(6)
	if d.Clear(2) != api.OK || d.Clear(1) != api.OK {
		t.Error("1 and 2 are steps")
	}
	for _, want := range []string{"done 3; next 0", "done 6; next 3"} {
		m, why = d.Go(99)
		at(t, "with a break at 0", m, why, want)
	}
	m, why = d.Back(4)
	at(t, "no break stops on the way back", m, why, "done 2; next 2")
	m, why = d.Go(0)
	at(t, "Go(0)", m, why, "done 2; next 2")
	m, why = d.Go(1)
	at(t, "a break at the last step that is gone", m, why, "done 3; next 0")
	m, why = d.Go(1)
	at(t, "one behind it", m, why, "done 4; next 1")
	none := began(t, api.Program{}, api.Options{}, w)
	if none.Break(0) != api.ErrRange || none.Clear(0) != api.ErrRange {
		t.Error("an empty program has no step")
	}
}

// 27.3: how far one may go, and back; what is refused changes nothing.
func TestRanges(t *testing.T) {
	p, w := rushes.Read(t, "p;=", false), marsh.Inputs("a\nb\n")
	d := began(t, p, api.Options{}, w)
	for _, most := range []int{-1 << 63, -1, api.MaxNumber + 1, 1<<63 - 1} {
		m, why := d.Go(most)
		refused(t, "Go", m, why, api.ErrRange)
		at(t, "Now", d.Now(), api.OK, "done 0; next 0")
	}
	for _, steps := range []int{-1 << 63, -1, 1, 1<<63 - 1} {
		m, why := d.Back(steps)
		refused(t, "Back", m, why, api.ErrRange)
	}
	m, why := d.Go(api.MaxNumber)
	at(t, "Go(MaxNumber)", m, why, "done 4; next 2")
	for _, most := range []int{-1, api.MaxNumber - 3, api.MaxNumber, 1<<63 - 1} {
		m, why := d.Go(most)
		refused(t, "Go at the end", m, why, api.ErrRange)
	}
	for _, steps := range []int{-1, 5, 1<<63 - 1} {
		m, why := d.Back(steps)
		refused(t, "Back at the end", m, why, api.ErrRange)
	}
	at(t, "Now", d.Now(), api.OK, "done 4; next 2")
	m, why = d.Go(api.MaxNumber - 4)
	at(t, "to MaxNumber", m, why, "done 4; next 2")
	m, why = d.Back(0)
	at(t, "Back(0)", m, why, "done 4; next 2")
	m, why = d.Back(4)
	at(t, "Back(4)", m, why, "done 0; next 0")
	if len(d.Effects()) != 0 {
		t.Error("effects ahead of the first step")
	}
	m, why = d.Go(api.MaxNumber)
	at(t, "Go(MaxNumber) once more", m, why, "done 4; next 2")
}

// 27.5: of a nil debugger.
func TestNil(t *testing.T) {
	var d *debug.Debugger
	for _, n := range []int{-1, 0, 1, api.MaxNumber + 1} {
		if d.Break(n) != api.ErrNil || d.Clear(n) != api.ErrNil {
			t.Error("breaks of nil")
		}
		m, why := d.Go(n)
		refused(t, "Go of nil", m, why, api.ErrNil)
		m, why = d.Back(n)
		refused(t, "Back of nil", m, why, api.ErrNil)
	}
	at(t, "Now of nil", d.Now(), api.OK, marsh.ShowMoment(api.Moment{}))
	if d.Effects() != nil {
		t.Error("effects of nil")
	}
}

// 27.4: moments in words, also such as no run has.
func TestSay(t *testing.T) {
	p := rushes.Read(t, "p;{y/a/b/\n};q", false)
	odd := api.Program{Steps: []api.Step{{Command: api.Command{Name: 0xff}}, {Command: api.Command{Name: '"'}}, {Command: api.Command{Name: '\n'}}, {}}}
	queue := []api.Item{{Kind: api.ItemText, Text: "x"}, {Kind: 99}}
	for _, c := range []struct {
		p    api.Program
		m    api.Moment
		want string
	}{
		{p, api.Moment{}, "step 0 \"p\"|line 0|pattern \"\"|hold \"\"|queue 0|done 0|"},
		{p, api.Moment{Done: 7, Next: 1, Line: 2, Pattern: "a\nb", Hold: "\"", Queue: queue}, "step 1 \"{\"|line 2|pattern \"a\\nb\"|hold \"\\\"\"|queue 2|done 7|"},
		{p, api.Moment{Next: 3}, "step 3 \"q\"|line 0|pattern \"\"|hold \"\"|queue 0|done 0|"},
		{p, api.Moment{Next: 4, Over: true, Stop: api.StopQuit, Code: 7}, "step 4|line 0|pattern \"\"|hold \"\"|queue 0|done 0|over 1 7|"},
		{p, api.Moment{Next: 4, Stop: api.StopQuit, Code: 7}, "step 4|line 0|pattern \"\"|hold \"\"|queue 0|done 0|"},
		{p, api.Moment{Next: -1, Line: -2, Done: -3, Over: true, Stop: 255, Code: -4}, "step -1|line -2|pattern \"\"|hold \"\"|queue 0|done -3|over 255 -4|"},
		{p, api.Moment{Next: 1<<63 - 1, Line: -1 << 63}, "step 9223372036854775807|line -9223372036854775808|pattern \"\"|hold \"\"|queue 0|done 0|"},
		{api.Program{}, api.Moment{}, "step 0|line 0|pattern \"\"|hold \"\"|queue 0|done 0|"},
		{odd, api.Moment{}, "step 0 \"\\377\"|line 0|pattern \"\"|hold \"\"|queue 0|done 0|"},
		{odd, api.Moment{Next: 1}, "step 1 \"\\\"\"|line 0|pattern \"\"|hold \"\"|queue 0|done 0|"},
		{odd, api.Moment{Next: 2}, "step 2 \"\\n\"|line 0|pattern \"\"|hold \"\"|queue 0|done 0|"},
		{odd, api.Moment{Next: 3, Pattern: "\x00\xff", Hold: "\t"}, "step 3 " + quoted("\x00") + "|line 0|pattern " + quoted("\x00\xff") + "|hold " + quoted("\t") + "|queue 0|done 0|"},
	} {
		got := debug.Say(c.p, c.m)
		if want := strings.ReplaceAll(c.want, "|", "\n"); got != want || got != said(c.p, c.m) {
			t.Errorf("Say: %q, not %q", got, want)
		}
	}
}
