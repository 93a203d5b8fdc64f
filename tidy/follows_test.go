package tidy_test

import (
	"math/rand"
	"slices"
	"strings"
	"testing"

	"paddock/api"
	"paddock/engine"
	"paddock/marsh"
	"paddock/program"
	"paddock/reach"
	"paddock/reeds"
	"paddock/rushes"
	"paddock/spec"
	"paddock/tidy"
)

// less is a right program, tidied.
func less(t *testing.T, p api.Program) api.Program {
	t.Helper()
	out, why := tidy.Tidy(p, false)
	if why != api.OK {
		t.Fatalf("%s\nerror %d", rushes.Show(p), why)
	}
	return out
}

// isFront tells whether some effects are the first ones of others.
func isFront(a, b []api.Effect) bool { return len(a) <= len(b) && slices.Equal(a, b[:len(a)]) }

// ended tells whether a run came to its end by itself.
func ended(m api.Meaning) bool {
	return m.Stop == api.StopNone || m.Stop == api.StopQuit || m.Stop == api.StopExec
}

// sameEnd tells whether a run has the same effects and the same end as another one, with no more steps, and no more cost.
func sameEnd(was, is api.Meaning) bool {
	return slices.Equal(was.Effects, is.Effects) && was.Code == is.Code && was.Stop == is.Stop && was.Peak == is.Peak && is.Steps <= was.Steps && is.Cost <= was.Cost
}

// roomy is a quota within which grown runs come to their end, if they don't go on for ever.
func roomy() api.Quota {
	return api.Quota{Fuel: 20000, Memory: 500, Output: 1 << 20, Each: 1 << 20}
}

// P28.4: the same effects and the same end, in no more steps; a front of them, where the limit is not enough.
func TestSame(t *testing.T) {
	chance := rand.New(rand.NewSource(284)).Intn
	whole, fronts, saved := 0, 0, 0
	for range 6000 {
		p, o, w := grown(t, chance), marsh.Options(chance), marsh.World(chance)
		q := less(t, p)
		if m, _ := engine.Run(q, o, w, roomy()); m.Stop == api.StopMemory {
			continue // it grows by doubling, and would for long
		}
		for _, limit := range []int{chance(6), chance(40), 400} {
			was, why := spec.Run(p, o, w, limit)
			is, no := spec.Run(q, o, w, limit)
			if why != api.OK || no != api.OK {
				t.Fatalf("errors %d, %d", why, no)
			}
			right := sameEnd(was, is)
			if was.Stop == api.StopLimit {
				right = isFront(was.Effects, is.Effects)
				fronts++
			} else {
				whole++
				saved += was.Steps - is.Steps
			}
			if !right {
				t.Fatalf("%s\nbecomes\n%s\n%v %s, %d steps:\n%s\nnot %s", rushes.Show(p), rushes.Show(q), o, marsh.ShowWorld(w), limit, marsh.Show(is), marsh.Show(was))
			}
		}
	}
	if whole < 4000 || fronts < 2000 || saved < 4000 {
		t.Error("only a few:", whole, fronts, saved)
	}
}

// P28.5: a tidied program is right, tidied again the same, and has no dead step, but such as keep a file, and blocks.
func TestAtRest(t *testing.T) {
	chance := rand.New(rand.NewSource(285)).Intn
	grower := rushes.NewGrower(t, chance)
	dead := 0
	for n := range 8000 {
		p := grown(t, chance)
		if n%2 == 0 {
			p = grower.Grow(chance(14))
		}
		q := less(t, p)
		if why, at := program.Check(q, false); why != api.OK {
			t.Fatalf("%s\nerror %d at %d", rushes.Show(q), why, at)
		}
		if again := less(t, q); rushes.Show(again) != rushes.Show(q) {
			t.Fatalf("%s\ntidied again:\n%s", rushes.Show(q), rushes.Show(again))
		}
		if n, why := tidy.Saved(q, false); n != 0 || why != api.OK {
			t.Fatalf("%s\nsaves %d, error %d", rushes.Show(q), n, why)
		}
		if q.Quiet != p.Quiet || !slices.Equal(q.Files, p.Files) {
			t.Fatalf("%s\nis of other files, or another quiet, than\n%s", rushes.Show(q), rushes.Show(p))
		}
		r, _ := reach.Of(q, false)
		for i, s := range q.Steps {
			if !r.Live[i] {
				dead++
				if !keeps(s) && s.Command.Name != '{' {
					t.Fatalf("%s\nhas the dead step %d", rushes.Show(q), i)
				}
			}
		}
	}
	if dead < 500 {
		t.Error("only a few dead ones:", dead)
	}
}

// P28.6: with whatever quota, what the program does is done, and perhaps more.
func TestQuotas(t *testing.T) {
	chance := rand.New(rand.NewSource(286)).Intn
	stops := map[api.StopKind]int{}
	for range 6000 {
		p, o, w := grown(t, chance), marsh.Options(chance), marsh.World(chance)
		q := less(t, p)
		for range 4 {
			quota := api.Quota{Fuel: []int{chance(200), 4000}[chance(2)], Memory: []int{chance(20), 500}[chance(2)], Output: []int{chance(30), 1 << 20}[chance(2)], Each: []int{chance(10), 1 << 20}[chance(2)]}
			was, why := engine.Run(p, o, w, quota)
			is, no := engine.Run(q, o, w, quota)
			if why != api.OK || no != api.OK {
				t.Fatalf("errors %d, %d", why, no)
			}
			stops[was.Stop]++
			if !isFront(was.Effects, is.Effects) || was.Stop != api.StopFuel && !sameEnd(was, is) {
				t.Fatalf("%s\nbecomes\n%s\n%v %s, %v:\n%s\nnot %s", rushes.Show(p), rushes.Show(q), o, marsh.ShowWorld(w), quota, marsh.Show(is), marsh.Show(was))
			}
		}
	}
	for _, stop := range []api.StopKind{api.StopNone, api.StopQuit, api.StopExec, api.StopFuel, api.StopMemory, api.StopOutput, api.StopEach} {
		if stops[stop] < 100 {
			t.Errorf("only %d ended by %d", stops[stop], stop)
		}
	}
}

// P28.6: the least quota of the program is enough.
func TestNeeds(t *testing.T) {
	chance := rand.New(rand.NewSource(2861)).Intn
	for range 3000 {
		p, o, w := grown(t, chance), marsh.Options(chance), marsh.World(chance)
		if m, _ := engine.Run(p, o, w, roomy()); !ended(m) {
			continue
		}
		need, ok, _ := engine.Need(p, o, w, 20000)
		is, why := engine.Run(less(t, p), o, w, need)
		if was, _ := engine.Run(p, o, w, need); !ok || why != api.OK || !ended(is) || !sameEnd(was, is) {
			t.Fatalf("%s\n%v: error %d, %s\nnot %s", rushes.Show(p), need, why, marsh.Show(is), marsh.Show(was))
		}
	}
}

// P28.3: answers are new memory; what is handed in is neither changed nor kept.
func TestMemory(t *testing.T) {
	chance := rand.New(rand.NewSource(283)).Intn
	grower := rushes.NewGrower(t, chance)
	for n := range 3000 {
		p := grown(t, chance)
		if n%2 == 0 {
			p = grower.Grow(chance(14))
		}
		s, _ := program.Back(p, false)
		given, written := rushes.Roomy(p), reeds.Roomy(s)
		a, b := less(t, given), less(t, given)
		x, why := tidy.Script(written)
		y, _ := tidy.Script(written)
		tidy.Saved(given, false)
		if rushes.Show(given) != rushes.Show(p) || !rushes.Untouched(given) || reeds.Show(written) != reeds.Show(s) || !reeds.Untouched(written) || !slices.Equal(rushes.Places(given), rushes.Places(p)) {
			t.Fatal("what was handed in is changed")
		}
		if why != api.OK || !rushes.Apart(a) || !reeds.Apart(x) {
			t.Fatalf("error %d; or lists of one answer share memory", why)
		}
		tidied, script := rushes.Show(b), reeds.Show(y)
		rushes.Blot(a)
		reeds.Blot(x)
		rushes.Blot(given)
		reeds.Blot(written)
		if rushes.Show(b) != tidied || reeds.Show(y) != script {
			t.Fatal("memory is shared")
		}
	}
}

// As many commands as may be, of each rule's kind; one more.
func TestLimits(t *testing.T) {
	for s, c := range map[string]struct{ times, left int }{
		"x\n":              {api.MaxCommand, 0},
		"h\n":              {api.MaxCommand, 1},
		"b\n":              {api.MaxCommand, 0},
		"d\n":              {api.MaxCommand, 1},
		"1{\n}\n":          {api.MaxCommand / 2, 0},
		"1{p\n}\n":         {api.MaxCommand / 3, api.MaxCommand / 3},
		"/a/{\nx\nx\n}\n":  {api.MaxCommand / 4, api.MaxCommand / 4},
		"/a/{\n1g\n}\nx\n": {api.MaxCommand / 4, api.MaxCommand / 4 * 3},
	} {
		p := rushes.Read(t, strings.Repeat(s, c.times), false)
		q := less(t, p)
		if n, why := tidy.Saved(p, false); len(q.Steps) != c.left || why != api.OK || n != len(p.Steps)-c.left {
			t.Errorf("%q: %d are left, %d saved, error %d", s, len(q.Steps), n, why)
		}
	}
	many := api.Program{Steps: slices.Repeat([]api.Step{{Command: api.Command{Name: 'x'}}}, api.MaxCommand+1)}
	if q, why := tidy.Tidy(many, false); why != api.ErrProgram || len(q.Steps) != 0 {
		t.Errorf("one more: %d steps, error %d", len(q.Steps), why)
	}
	if n, why := tidy.Saved(many, false); why != api.ErrProgram || n != 0 {
		t.Errorf("one more: %d, error %d", n, why)
	}
	commands := slices.Repeat([]api.Command{{Name: 'x'}}, api.MaxCommand+1)
	if _, why := tidy.Script(api.Script{Commands: commands}); why != api.ErrScript {
		t.Error("one more: error", why)
	}
	if got, why := tidy.Script(api.Script{Commands: commands[1:]}); why != api.OK || len(got.Commands) != 0 {
		t.Error("as many as may be: error", why)
	}
	nest := func(depth int) string { return strings.Repeat("/a/{\n", depth) + strings.Repeat("}\n", depth) }
	p := rushes.Read(t, nest(api.MaxNest), false)
	if q := less(t, p); rushes.Show(q) != rushes.Show(p) {
		t.Error("nested as deep as may be, with nothing to be taken out:", rushes.Show(q))
	}
	p = rushes.Read(t, strings.ReplaceAll(nest(api.MaxNest), "/a/", "2,3!"), false)
	if q := less(t, p); len(q.Steps) != 0 {
		t.Error("nested as deep as may be:", rushes.Show(q))
	}
}

// The empty program, and hand-made ones.
func TestHandMade(t *testing.T) {
	for _, p := range []api.Program{{}, {Quiet: true}, {Steps: []api.Step{}}} {
		q, why := tidy.Tidy(p, false)
		if n, no := tidy.Saved(p, false); why != api.OK || no != api.OK || n != 0 || rushes.Show(q) != rushes.Show(p) {
			t.Errorf("%s: errors %d, %d, saved %d", rushes.Show(q), why, no, n)
		}
	}
	x := api.Command{Name: 'x'}
	for _, p := range []api.Program{
		{Files: []string{"f"}},
		{Steps: []api.Step{{}}},
		{Steps: []api.Step{{Command: api.Command{Name: '{'}}}},
		{Steps: []api.Step{{Command: x, To: 1}}},
		{Steps: []api.Step{{Command: api.Command{Name: 'b'}, To: 2}}},
		{Steps: []api.Step{{Command: api.Command{Name: 'b'}, To: -1}}},
		{Steps: []api.Step{{Command: api.Command{Name: 'b'}, To: 1 << 62}}},
		{Steps: []api.Step{{Command: api.Command{Name: ':', Text: "a"}}}},
		{Steps: []api.Step{{Command: api.Command{Name: 'w', Text: "f"}}}},
		{Steps: []api.Step{{Command: api.Command{Name: '{'}, To: 2}, {Command: api.Command{Name: '{'}, To: 3}, {Command: x}}},
	} {
		if q, why := tidy.Tidy(p, false); why != api.ErrProgram || rushes.Show(q) != rushes.Show(api.Program{}) {
			t.Errorf("%s\nerror %d, %s", rushes.Show(p), why, rushes.Show(q))
		}
	}
	for _, s := range []api.Script{{Commands: []api.Command{{}}}, {Commands: []api.Command{{Name: '{'}}}, {Commands: []api.Command{{Name: '}'}}}, {Commands: []api.Command{{Name: 'b', Text: "a"}}}} {
		if got, why := tidy.Script(s); why != api.ErrScript || reeds.Show(got) != reeds.Show(api.Script{}) {
			t.Errorf("%s\nerror %d, %s", reeds.Show(s), why, reeds.Show(got))
		}
	}
	if got, why := tidy.Script(api.Script{Quiet: true, Extended: true}); why != api.OK || !got.Quiet || !got.Extended || len(got.Commands) != 0 {
		t.Errorf("an empty script: error %d, %s", why, reeds.Show(got))
	}
}
