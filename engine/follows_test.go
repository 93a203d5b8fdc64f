package engine_test

import (
	"math/rand"
	"slices"
	"strings"
	"testing"

	"paddock/api"
	"paddock/engine"
	"paddock/marsh"
	"paddock/reach"
	"paddock/rushes"
)

// P20.9: what reach does not tell of no run does.
func TestReach(t *testing.T) {
	chance := rand.New(rand.NewSource(209)).Intn
	seen := map[api.StopKind]int{}
	for range 6000 {
		p, o, w := rushes.Read(t, marsh.Script(chance, 1+chance(8)), false), marsh.Options(chance), marsh.World(chance)
		r, why := reach.Of(p, false)
		m, no := engine.Run(p, o, w, api.Quota{Fuel: chance(300), Memory: 1000, Output: 1000, Each: 1000})
		if why != api.OK || no != api.OK {
			t.Fatalf("errors %d, %d", why, no)
		}
		seen[m.Stop]++
		if m.Stop == api.StopExec && !r.Exec || m.Stop == api.StopQuit && !r.Quits {
			t.Fatalf("%s\n%s", rushes.Show(p), marsh.Show(m))
		}
		for _, e := range m.Effects {
			if e.Kind == api.EffectFile && !slices.Contains(r.Written, e.Name) {
				t.Fatalf("%q is not told: %s", e.Name, rushes.Show(p))
			}
		}
	}
	if seen[api.StopExec] < 200 || seen[api.StopQuit] < 200 {
		t.Error("only a few:", seen)
	}
}

// P20.7: scripts that would never end, or need more than there is, end soon, however great what they would do is.
func TestHostile(t *testing.T) {
	long := strings.Repeat("a", 1<<16)
	backs := strings.Repeat("\\(a*\\)", 9) + "\\1\\2\\3\\4\\5\\6\\7\\8\\9x"
	rounds := "\\(\\(\\(\\(a*\\)*\\)*\\)*\\)*\\1x"
	for _, c := range []struct {
		s, in string
		q     api.Quota
		stop  api.StopKind
	}{
		{"/" + backs + "/p", long, api.Quota{Fuel: 5000}, api.StopFuel},
		{"s/" + backs + "/y/g", long, api.Quota{Fuel: 5000}, api.StopFuel},
		{"s/" + rounds + "/y/", long, api.Quota{Fuel: 5000}, api.StopFuel},
		// what comes behind the match that is replaced is not looked for
		{"s/b\\|" + backs + "/y/7", "bbbbbbb" + long, api.Quota{Fuel: 5000}, api.StopNone},
		{"s/b\\|" + backs + "/y/8", "bbbbbbb" + long, api.Quota{Fuel: 5000}, api.StopFuel},
		{"s/b\\|" + backs + "/y/g", "bbbbbbb" + long, api.Quota{Fuel: 5000}, api.StopFuel},
		// rounds that are many, but of which a match needs few steps
		{"s/\\(a\\{255\\}\\)\\{60\\}/y/", "b" + strings.Repeat(long, 16), api.Quota{Fuel: 1 << 20}, api.StopNone},
		// case that does not matter, in a text with many matches
		{"s/A/b/gI", strings.Repeat(long, 4), api.Quota{Fuel: 1 << 20}, api.StopNone},
		{":a;s/.*/&&/;ba", "a", api.Quota{Fuel: 1 << 30, Memory: 1 << 20}, api.StopMemory},
		{"s/a/" + strings.Repeat("&", 1<<15) + "/g", long, api.Quota{Fuel: 1 << 20, Memory: 1 << 17}, api.StopMemory},
		{"s/.*/" + strings.Repeat("&", 1<<15) + "/", long, api.Quota{Fuel: 1 << 20, Memory: 1 << 17}, api.StopMemory},
		{":a;G;h;ba", "a", api.Quota{Fuel: 1 << 30, Memory: 1 << 20}, api.StopMemory},
		{":a;a x\nba", "a", api.Quota{Fuel: 1 << 30, Memory: 1 << 16}, api.StopMemory},
		{":a;p;ba", "a", api.Quota{Fuel: 1 << 30, Output: 1 << 20}, api.StopOutput},
		{":a;w o\nba", "a", api.Quota{Fuel: 1 << 30, Each: 1 << 20}, api.StopEach},
		{"$!{:a;H;x;ba}", "a\nb\n", api.Quota{Fuel: 1 << 30, Memory: 1 << 20}, api.StopMemory},
		{":a;ba", "a", api.Quota{Fuel: 1 << 22}, api.StopFuel},
		{"s/^/x\\n/;D", "a", api.Quota{Fuel: 1 << 16}, api.StopFuel},
	} {
		for _, n := range []*int{&c.q.Memory, &c.q.Output} {
			if *n == 0 {
				*n = api.MaxMemory
			}
		}
		m, why := engine.Run(rushes.Read(t, c.s, false), api.Options{}, marsh.Inputs(c.in), c.q)
		if why != api.OK || m.Stop != c.stop || m.Cost > c.q.Fuel || m.Peak > c.q.Memory {
			t.Errorf("%.20q: error %d, stop %d, code %d, steps %d, cost %d, peak %d", c.s, why, m.Stop, m.Code, m.Steps, m.Cost, m.Peak)
		}
	}
}

// P20.2a: R goes on in a long file where it stood, also while it grows.
func TestLongFiles(t *testing.T) {
	const n = 50000
	w := marsh.Inputs(strings.Repeat("a\n", n))
	w.Others = []api.Text{{Name: "f", Data: strings.Repeat("b\n", n)}}
	q := api.Quota{Fuel: api.MaxQuota, Memory: 99, Output: 1 << 20, Each: 1 << 20}
	m, why := engine.Run(rushes.Read(t, "R f", false), api.Options{}, w, q)
	if why != api.OK || m.Stop != api.StopNone || text(m.Effects) != strings.Repeat("a\nb\n", n) {
		t.Error(why, m.Stop, len(m.Effects))
	}
	w.Inputs = marsh.Inputs(strings.Repeat("a\n", 2000)).Inputs
	m, why = engine.Run(rushes.Read(t, "#n\nw o\nR o", false), api.Options{}, w, q)
	if why != api.OK || m.Stop != api.StopNone || text(m.Effects) != strings.Repeat("a\na\n", 2000) {
		t.Error(why, m.Stop, len(m.Effects))
	}
}

// P20.3: answers are new memory; what is handed in is neither changed nor kept.
func TestMemory(t *testing.T) {
	chance := rand.New(rand.NewSource(203)).Intn
	for range 1500 {
		p, o, w := rushes.Read(t, marsh.Script(chance, 1+chance(8)), false), marsh.Options(chance), marsh.World(chance)
		q := api.Quota{Fuel: chance(100), Memory: 200, Output: 200, Each: 200}
		want, _ := engine.Run(p, o, w, q)
		program, world := rushes.Roomy(p), marsh.Roomy(w)
		a, _ := engine.Run(program, o, world, q)
		b, _ := engine.Run(program, o, world, q)
		engine.Need(program, o, world, marsh.Read(p, o, w, 30).Steps())
		over := engine.Over(world, program, o.Separate || o.InPlace)
		if rushes.Show(program) != rushes.Show(p) || !rushes.Untouched(program) || marsh.ShowWorld(world) != marsh.ShowWorld(w) || !marsh.Untouched(world) {
			t.Fatal("what was handed in is changed")
		}
		for i := range a.Effects[:cap(a.Effects)] {
			a.Effects[:cap(a.Effects)][i] = api.Effect{Name: "blot"}
		}
		rushes.Blot(program)
		marsh.Blot(world)
		if marsh.Show(b) != marsh.Show(want) {
			t.Fatal("memory is shared")
		}
		if m, why := engine.RunOver(p, o, q, over); why != api.OK || marsh.Show(m) != marsh.Show(want) {
			t.Fatal("a World has kept what was handed in")
		}
	}
}

// P3, P4: one run after another, each as if it were alone.
func TestAgain(t *testing.T) {
	chance := rand.New(rand.NewSource(3)).Intn
	for range 300 {
		p, o, w := rushes.Read(t, marsh.Script(chance, 1+chance(8)), false), marsh.Options(chance), marsh.World(chance)
		q := api.Quota{Fuel: chance(100), Memory: 200, Output: 200, Each: 200}
		want, _ := engine.Run(p, o, w, q)
		for range 3 {
			if m, why := engine.Run(p, o, w, q); why != api.OK || marsh.Show(m) != marsh.Show(want) {
				t.Fatalf("%s\n%s, then %s", rushes.Show(p), marsh.Show(want), marsh.Show(m))
			}
		}
	}
}
