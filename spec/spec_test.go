package spec_test

import (
	"slices"
	"strconv"
	"testing"

	"paddock/api"
	"paddock/marsh"
	"paddock/rushes"
	"paddock/spec"
	"paddock/twigs"
)

const (
	out  = api.EffectOut
	file = api.EffectFile
	edit = api.EffectEdit
)

// run is what a script of basic expressions does.
func run(t twigs.Test, s string, o api.Options, w api.World) api.Meaning {
	t.Helper()
	m, why := spec.Run(rushes.Read(t, s, false), o, w, 1000)
	if why != api.OK {
		t.Fatalf("%q: error %d", s, why)
	}
	return m
}

// The chapter's examples.
func TestExamples(t *testing.T) {
	w := api.World{Inputs: []api.Text{{Name: "-", Data: "a\nb\nc"}}, Others: []api.Text{{Name: "f", Data: "x\n"}}}
	for s, want := range map[string]string{
		"p": "a\na\nb\nb\nc\nc", "$!d": "c", "2q": "a\nb\n", "1!G;h;$!d": "c\nb\na",
		"2r f": "a\nb\nx\nc", "$r f": "a\nb\nc\nx\n", "$a x": "a\nb\nc\nx\n", "N;P;D": "a\nb\nc", ":a;N;$!ba;s/\\n/,/g": "a,b,c",
		"2,1p": "a\nb\nb\nc", "0,/a/d": "b\nc", "2,+1d": "a\n", "/b/,/b/d": "a\n", "y/abc/xyz/;1c\\\nt": "t\ny\nz",
	} {
		if m := run(t, s, api.Options{}, w); spec.Text(m.Effects, out, "") != want {
			t.Errorf("%q: %s", s, marsh.Show(m))
		}
	}
	if m := run(t, "p", api.Options{Quiet: true}, w); spec.Text(m.Effects, out, "") != "a\nb\nc" {
		t.Error("-n p:", marsh.Show(m))
	}
	if m := run(t, "2q", api.Options{}, w); m.Stop != api.StopQuit || m.Code != 0 {
		t.Error("2q:", marsh.Show(m))
	}
	if m := run(t, "e", api.Options{}, w); m.Stop != api.StopExec || m.Code != 3 || len(m.Effects) != 0 {
		t.Error("e:", marsh.Show(m))
	}
	if m := run(t, "w o", api.Options{}, w); spec.Text(m.Effects, out, "") != "a\nb\nc" || spec.Text(m.Effects, file, "o") != "a\nb\nc" {
		t.Error("w o:", marsh.Show(m))
	}
	m, _ := spec.Run(rushes.Read(t, ":a;ba", false), api.Options{}, marsh.Inputs("a\n"), 9)
	if marsh.Show(m) != "stop 3; code 0; steps 9; cost 9; peak 1" {
		t.Error(":a;ba:", marsh.Show(m))
	}
	if m := run(t, "s/b/x/", api.Options{}, marsh.Inputs("a\nb\n")); m.Cost != 6 || m.Steps != 2 || m.Peak != 1 {
		t.Error("the cost:", marsh.Show(m))
	}
}

// 19.1: worlds that may be, and such as may not.
func TestCheck(t *testing.T) {
	many := func(n int, named func(int) string) []api.Text {
		var l []api.Text
		for i := range n {
			l = append(l, api.Text{Name: named(i), Data: "x\n"})
		}
		return l
	}
	same := func(int) string { return "f" }
	most := api.MaxFiles
	text := func(x api.Text) []api.Text { return []api.Text{{Name: "a"}, x, {Name: "b"}} }
	for i, c := range []struct {
		w     api.World
		right bool
	}{
		{api.World{}, true},
		{api.World{Inputs: []api.Text{}, Others: []api.Text{}}, true},
		{api.World{Inputs: many(most, strconv.Itoa), Others: many(most, strconv.Itoa)}, true},
		{api.World{Inputs: many(most, same)}, true},
		{api.World{Inputs: many(most+1, strconv.Itoa)}, false},
		{api.World{Others: many(most+1, strconv.Itoa)}, false},
		{api.World{Others: many(2, same)}, false},
		{api.World{Inputs: many(1, same), Others: many(1, same)}, true},
		{api.World{Inputs: text(api.Text{})}, false},
		{api.World{Others: text(api.Text{})}, false},
		{api.World{Inputs: text(api.Text{Name: "x", Gone: true})}, true},
		{api.World{Others: text(api.Text{Name: "x", Gone: true})}, true},
		{api.World{Inputs: text(api.Text{Name: "x", Data: "d", Gone: true})}, false},
		{api.World{Others: text(api.Text{Name: "x", Data: "d", Gone: true})}, false},
		{api.World{Others: text(api.Text{Name: "b", Gone: true})}, false},
		{api.World{Others: text(api.Text{Name: "a", Data: "d"})}, false},
		{api.World{Inputs: []api.Text{{Name: "\x00\n"}}, Others: []api.Text{{Name: "/dev/stdout"}, {Name: "-"}}}, true},
	} {
		want := api.OK
		if !c.right {
			want = api.ErrWorld
		}
		if got := spec.Check(c.w); got != want {
			t.Errorf("%d: Check is %d, not %d", i, got, want)
		}
		p := rushes.Read(t, "p", false)
		m, why := spec.Run(p, api.Options{}, c.w, 9999)
		if why != want || why != api.OK && marsh.Show(m) != marsh.Show(api.Meaning{}) {
			t.Errorf("%d: Run has error %d: %s", i, why, marsh.Show(m))
		}
		at, why := spec.At(p, api.Options{}, c.w, 9999)
		if why != want || why != api.OK && marsh.ShowMoment(at) != marsh.ShowMoment(api.Moment{}) {
			t.Errorf("%d: At has error %d: %s", i, why, marsh.ShowMoment(at))
		}
	}
}

// 19.1, 19.8: errors, which one comes first, and nothing beside them; limits at the edges and one past them.
func TestErrors(t *testing.T) {
	right, wrong := rushes.Read(t, "p", false), api.Program{Steps: []api.Step{{Command: api.Command{Name: 'k'}}}}
	files := rushes.Read(t, "w o", false)
	files.Files = nil
	jump := rushes.Read(t, "b", false)
	jump.Steps[0].To = 2
	bad := api.World{Inputs: []api.Text{{}}}
	for i, c := range []struct {
		p     api.Program
		w     api.World
		limit int
		want  api.Errno
	}{
		{wrong, api.World{}, 0, api.ErrProgram}, {wrong, bad, -1, api.ErrProgram}, {files, bad, -1, api.ErrProgram}, {jump, api.World{}, 1, api.ErrProgram},
		{right, bad, 0, api.ErrWorld}, {right, bad, -1, api.ErrWorld}, {right, bad, api.MaxNumber + 1, api.ErrWorld},
		{right, api.World{}, -1, api.ErrRange}, {right, api.World{}, -1 << 63, api.ErrRange}, {right, api.World{}, api.MaxNumber + 1, api.ErrRange}, {right, api.World{}, 1<<63 - 1, api.ErrRange},
		{right, api.World{}, 0, api.OK}, {right, marsh.Inputs("a\n"), 0, api.OK}, {right, marsh.Inputs("a\n"), api.MaxNumber, api.OK}, {api.Program{}, api.World{}, 0, api.OK},
	} {
		m, why := spec.Run(c.p, api.Options{}, c.w, c.limit)
		if why != c.want || why != api.OK && marsh.Show(m) != marsh.Show(api.Meaning{}) {
			t.Errorf("%d: Run has error %d, not %d: %s", i, why, c.want, marsh.Show(m))
		}
		at, why := spec.At(c.p, api.Options{}, c.w, c.limit)
		if why != c.want || why != api.OK && marsh.ShowMoment(at) != marsh.ShowMoment(api.Moment{}) {
			t.Errorf("%d: At has error %d, not %d: %s", i, why, c.want, marsh.ShowMoment(at))
		}
	}
}

// 19.1: a program that is one for extended expressions alone, or for basic ones alone, is run, whatever the options; one of both kinds is none.
func TestExtended(t *testing.T) {
	w := marsh.Inputs("a(b)\n")
	extended, basic := rushes.Read(t, "s/(a)/<\\1>/", true), rushes.Read(t, "s/(b)/<&>/", false)
	for _, o := range []api.Options{{}, {Extended: true}} {
		m, why := spec.Run(extended, o, w, 9)
		if why != api.OK || spec.Text(m.Effects, out, "") != "<a>(b)\n" {
			t.Error("extended:", why, marsh.Show(m))
		}
		m, why = spec.Run(basic, o, w, 9)
		if why != api.OK || spec.Text(m.Effects, out, "") != "a<(b)>\n" {
			t.Error("basic:", why, marsh.Show(m))
		}
	}
	both := api.Program{Steps: slices.Concat(extended.Steps, basic.Steps)}
	if m, why := spec.Run(both, api.Options{}, w, 9); why != api.ErrProgram || len(m.Effects) != 0 {
		t.Error("both:", why, marsh.Show(m))
	}
}

// 19.1: as many steps as are needed, and one fewer; what comes ahead of a step is done.
func TestLimit(t *testing.T) {
	w := marsh.Inputs("a\nb\n")
	for _, c := range []struct {
		s     string
		limit int
		want  string
	}{
		{"p", 0, `stop 3; code 0; steps 0; cost 0; peak 1`},
		{"p", 1, `stop 3; code 0; steps 1; cost 1; peak 1; 1 "" "a\n"; 1 "" "a\n"`},
		{"p", 2, `stop 0; code 0; steps 2; cost 2; peak 1; 1 "" "a\n"; 1 "" "a\n"; 1 "" "b\n"; 1 "" "b\n"`},
		{"", 0, `stop 0; code 0; steps 0; cost 0; peak 1; 1 "" "a\n"; 1 "" "b\n"`},
		{"q", 0, `stop 3; code 0; steps 0; cost 0; peak 1`},
		{"q", 1, `stop 1; code 0; steps 1; cost 1; peak 1; 1 "" "a\n"`},
		{"1!p", 1, `stop 3; code 0; steps 1; cost 1; peak 1; 1 "" "a\n"`},
		{"2{p;p;}", 3, `stop 3; code 0; steps 3; cost 3; peak 1; 1 "" "a\n"; 1 "" "b\n"`},
		{"2{p;p;}", 4, `stop 0; code 0; steps 4; cost 4; peak 1; 1 "" "a\n"; 1 "" "b\n"; 1 "" "b\n"; 1 "" "b\n"`},
	} {
		m, why := spec.Run(rushes.Read(t, c.s, false), api.Options{}, w, c.limit)
		if why != api.OK || marsh.Show(m) != c.want {
			t.Errorf("%q, %d: error %d: %s", c.s, c.limit, why, marsh.Show(m))
		}
	}
	for _, p := range []string{"p", "q", ":a;ba"} {
		m, why := spec.Run(rushes.Read(t, p, false), api.Options{}, api.World{}, 0)
		if why != api.OK || marsh.Show(m) != marsh.Show(api.Meaning{}) {
			t.Errorf("%q without a line: error %d: %s", p, why, marsh.Show(m))
		}
	}
}

// 19.8: moments by hand.
func TestAt(t *testing.T) {
	w := marsh.Inputs("a\nb\n", "c")
	for _, c := range []struct {
		s     string
		steps int
		o     api.Options
		want  string
	}{
		{"p;h", 0, api.Options{}, `done 0; next 0; line 1; "a"; ""; over false; stop 0; code 0`},
		{"p;h", 1, api.Options{}, `done 1; next 1; line 1; "a"; ""; over false; stop 0; code 0`},
		{"p;h", 2, api.Options{}, `done 2; next 0; line 2; "b"; "a"; over false; stop 0; code 0`},
		{"p;h", 4, api.Options{}, `done 4; next 0; line 3; "c"; "b"; over false; stop 0; code 0`},
		{"p;h", 4, api.Options{Separate: true}, `done 4; next 0; line 1; "c"; "b"; over false; stop 0; code 0`},
		{"p;h", 4, api.Options{InPlace: true}, `done 4; next 0; line 1; "c"; "b"; over false; stop 0; code 0`},
		{"p;h", 6, api.Options{}, `done 6; next 2; line 3; "c"; "c"; over true; stop 0; code 0`},
		{"p;h", 999, api.Options{}, `done 6; next 2; line 3; "c"; "c"; over true; stop 0; code 0`},
		{"", 0, api.Options{}, `done 0; next 0; line 3; "c"; ""; over true; stop 0; code 0`},
		{"a\\\nx\np", 1, api.Options{}, `done 1; next 1; line 1; "a"; ""; over false; stop 0; code 0; 1 "x\n"`},
		{"a\\\nx\np", 2, api.Options{}, `done 2; next 0; line 2; "b"; ""; over false; stop 0; code 0`},
		{"r f\nR g\nQ5", 3, api.Options{}, `done 3; next 3; line 1; "a"; ""; over true; stop 1; code 5; 2 "f"; 3 "g"`},
		{"r f\nq5", 2, api.Options{}, `done 2; next 2; line 1; "a"; ""; over true; stop 1; code 5`},
		{"a\\\nx\ne ls", 2, api.Options{}, `done 2; next 2; line 1; "a"; ""; over true; stop 2; code 3; 1 "x\n"`},
		{"a\\\nx\ns/a/b/e", 2, api.Options{}, `done 2; next 2; line 1; "b"; ""; over true; stop 2; code 3; 1 "x\n"`},
		{"N;d", 1, api.Options{}, `done 1; next 1; line 2; "a\nb"; ""; over false; stop 0; code 0`},
		{"N;d", 2, api.Options{}, `done 2; next 0; line 3; "c"; ""; over false; stop 0; code 0`},
		{"N;d", 3, api.Options{}, `done 3; next 2; line 3; "c"; ""; over true; stop 0; code 0`},
		{"d", 9, api.Options{}, `done 3; next 1; line 3; ""; ""; over true; stop 0; code 0`},
		{"N;P;D", 3, api.Options{}, `done 3; next 0; line 2; "b"; ""; over false; stop 0; code 0`},
		{"2!{p\n};=", 3, api.Options{}, `done 3; next 0; line 2; "b"; ""; over false; stop 0; code 0`},
		{"2!{p\n};=", 4, api.Options{}, `done 4; next 2; line 2; "b"; ""; over false; stop 0; code 0`},
	} {
		at, why := spec.At(rushes.Read(t, c.s, false), c.o, w, c.steps)
		if why != api.OK || marsh.ShowMoment(at) != c.want {
			t.Errorf("%q, %d: error %d: %s", c.s, c.steps, why, marsh.ShowMoment(at))
		}
	}
	at, why := spec.At(rushes.Read(t, "p", false), api.Options{}, api.World{Inputs: []api.Text{{Name: "x", Gone: true}}}, 5)
	if want := `done 0; next 1; line 0; ""; ""; over true; stop 0; code 2`; why != api.OK || marsh.ShowMoment(at) != want {
		t.Error("without a line:", why, marsh.ShowMoment(at))
	}
}
