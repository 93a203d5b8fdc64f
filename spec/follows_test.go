package spec_test

import (
	"math/rand"
	"slices"
	"strings"
	"testing"

	"paddock/api"
	"paddock/marsh"
	"paddock/rushes"
	"paddock/spec"
)

// grown is a program by chance, with what it is run over.
func grown(t *testing.T, chance func(int) int) (api.Program, api.Options, api.World) {
	t.Helper()
	return rushes.Read(t, marsh.Script(chance, 1+chance(8)), false), marsh.Options(chance), marsh.World(chance)
}

// 19.4, 19.9: fronts; At stands where Run ends.
func TestFronts(t *testing.T) {
	chance := rand.New(rand.NewSource(194)).Intn
	for range 1500 {
		p, o, w := grown(t, chance)
		most := marsh.Read(p, o, w, 40).Steps()
		var lesser api.Meaning
		for limit := range most + 1 {
			m, why := spec.Run(p, o, w, limit)
			front := len(m.Effects) >= len(lesser.Effects) && slices.Equal(m.Effects[:len(lesser.Effects)], lesser.Effects)
			if why != api.OK || !front || m.Steps < lesser.Steps || m.Cost < lesser.Cost || m.Peak < lesser.Peak {
				t.Fatalf("%s\n%d steps: error %d\n%s\nbehind\n%s", rushes.Show(p), limit, why, marsh.Show(m), marsh.Show(lesser))
			}
			if limit > 0 && lesser.Stop != api.StopLimit && marsh.Show(m) != marsh.Show(lesser) {
				t.Fatalf("%s\n%d steps were enough: %s, not %s", rushes.Show(p), limit-1, marsh.Show(m), marsh.Show(lesser))
			}
			at, why := spec.At(p, o, w, limit)
			if why != api.OK || at.Done != m.Steps || at.Over != (m.Stop != api.StopLimit) || at.Over && (at.Stop != m.Stop || at.Code != m.Code || at.Next != len(p.Steps)) || !at.Over && (at.Stop != 0 || at.Code != 0 || at.Next >= len(p.Steps)) {
				t.Fatalf("%s\n%d steps: error %d, %s; but %s", rushes.Show(p), limit, why, marsh.ShowMoment(at), marsh.Show(m))
			}
			lesser = m
		}
	}
}

// A walk stands where it is told to, and where At stands, if it is not; it asks ahead of each step, and of the one at which it stood again. In however many parts it is gone, it is the same.
func TestWalk(t *testing.T) {
	chance := rand.New(rand.NewSource(199)).Intn
	stood, over := 0, 0
	for range 1500 {
		p, o, w := grown(t, chance)
		course := marsh.Read(p, o, w, 40)
		most := course.Steps()
		x, why := spec.Begin(p, o, w)
		if why != api.OK || x.Done() != 0 {
			t.Fatal("Begin: error", why)
		}
		rushes.Blot(p)
		marsh.Blot(w)
		for at := 0; ; {
			steps := at + chance(most+1-at)
			sooner := at + chance(most+1)
			asked := at
			m := x.To(steps, func(done, next int) bool {
				if here := course.At(done); done != asked || here.Next != next || here.Over {
					t.Fatalf("asked of step %d behind %d steps, not of %d behind %d", next, done, here.Next, asked)
				}
				asked++
				return done == sooner
			})
			if want := course.At(min(steps, sooner)); marsh.ShowMoment(m) != marsh.ShowMoment(want) || x.Done() != want.Done {
				t.Fatalf("to %d steps, or %d: %s, not %s", steps, sooner, marsh.ShowMoment(m), marsh.ShowMoment(want))
			}
			if m = x.To(m.Done-1, nil); marsh.ShowMoment(m) != marsh.ShowMoment(api.Moment{}) {
				t.Fatalf("back: %s", marsh.ShowMoment(m))
			}
			if sooner < steps {
				stood++
			}
			at = x.Done()
			if chance(4) == 0 {
				if m := x.To(most, nil); m.Over {
					over++
					if again := x.To(api.MaxNumber, nil); marsh.ShowMoment(again) != marsh.ShowMoment(m) {
						t.Fatalf("behind the end: %s, not %s", marsh.ShowMoment(again), marsh.ShowMoment(m))
					}
				}
				break
			}
		}
	}
	if stood < 200 || over < 200 {
		t.Error("only a few:", stood, over)
	}
}

// Walks of what may not be run, and beyond what is counted.
func TestNoWalk(t *testing.T) {
	p, w := rushes.Read(t, ":a;ba", false), marsh.Inputs("a\n")
	x, why := spec.Begin(api.Program{Steps: []api.Step{{Command: api.Command{Name: 'k'}}}}, api.Options{}, w)
	if x != nil || why != api.ErrProgram {
		t.Error("a wrong program: error", why)
	}
	x, why = spec.Begin(p, api.Options{}, api.World{Inputs: []api.Text{{}}})
	if x != nil || why != api.ErrWorld {
		t.Error("a wrong world: error", why)
	}
	if m := x.To(0, nil); x.Done() != 0 || marsh.ShowMoment(m) != marsh.ShowMoment(api.Moment{}) {
		t.Error("of no walk:", marsh.ShowMoment(m))
	}
	x, _ = spec.Begin(p, api.Options{}, w)
	for _, steps := range []int{-1 << 63, -1, api.MaxNumber + 1, 1<<63 - 1} {
		if m := x.To(steps, nil); x.Done() != 0 || marsh.ShowMoment(m) != marsh.ShowMoment(api.Moment{}) {
			t.Error("to", steps, "steps:", marsh.ShowMoment(m))
		}
	}
	if m := x.To(9, nil); m.Done != 9 || m.Over || m.Pattern != "a" {
		t.Error("to 9 steps:", marsh.ShowMoment(m))
	}
}

// 19.5: the empty program prints the input as it is; one that is quiet nothing.
func TestEmptyProgram(t *testing.T) {
	chance := rand.New(rand.NewSource(195)).Intn
	for range 500 {
		w := api.World{Inputs: []api.Text{{Name: "x", Data: marsh.Lines(chance)}}}
		for range chance(3) {
			whole := marsh.Lines(chance) + "\n"
			w.Inputs = slices.Insert(w.Inputs, 0, api.Text{Name: "y", Data: whole})
		}
		all := ""
		for _, x := range w.Inputs {
			all += x.Data
		}
		for _, o := range []api.Options{{}, {Separate: true}} {
			m, why := spec.Run(api.Program{}, o, w, 0)
			if why != api.OK || spec.Text(m.Effects, out, "") != all || m.Stop != api.StopNone || m.Code != 0 {
				t.Fatalf("%q: error %d: %s", all, why, marsh.Show(m))
			}
			for _, p := range []api.Program{{}, {Quiet: true}} {
				o.Quiet = !p.Quiet
				if m, why := spec.Run(p, o, w, 0); why != api.OK || len(m.Effects) != 0 {
					t.Fatalf("%q, quiet: error %d: %s", all, why, marsh.Show(m))
				}
			}
		}
	}
}

// 19.6: lines apart.
func TestLinesApart(t *testing.T) {
	chance := rand.New(rand.NewSource(196)).Intn
	letters := strings.Split("p|s/a/b/|s/[ab]/<&>/2gp|s/b*/x/|y/ab/ba/|d|=|F|l|l 3|1{|$!{|/a/{|{", "|")
	addresses := strings.Split("||||1|$|2!|/a/|/b/!|0~2|$!", "|")
	for range 2000 {
		var s []string
		for range 1 + chance(6) {
			letter := letters[chance(len(letters))]
			if strings.HasSuffix(letter, "{") {
				s = append(s, letter+"\n", addresses[chance(len(addresses))]+"p\n}")
				continue
			}
			s = append(s, addresses[chance(len(addresses))]+letter)
		}
		p := rushes.Read(t, strings.Join(s, "\n"), false)
		w := marsh.World(chance)
		w.Others = nil
		for i := range w.Inputs {
			if d := w.Inputs[i].Data; d != "" && !strings.HasSuffix(d, "\n") {
				w.Inputs[i].Data += "\n"
			}
		}
		o := api.Options{Separate: true, Quiet: chance(2) == 0}
		var apart []api.Effect
		for _, x := range w.Inputs {
			m, _ := spec.Run(p, o, api.World{Inputs: []api.Text{x}}, 9999)
			apart = append(apart, m.Effects...)
		}
		m, why := spec.Run(p, o, w, 9999)
		if why != api.OK || !slices.Equal(m.Effects, apart) {
			t.Fatalf("%s\n%s: error %d: %s\nnot %v", rushes.Show(p), marsh.ShowWorld(w), why, marsh.Show(m), apart)
		}
	}
}

// 19.7: what is printed is what the inputs become.
func TestInPlace(t *testing.T) {
	chance := rand.New(rand.NewSource(197)).Intn
	edits := 0
	for range 4000 {
		p, o, w := grown(t, chance)
		if slices.Contains(p.Files, "/dev/stdout") {
			continue
		}
		for i := range w.Inputs {
			if d := w.Inputs[i].Data; d != "" && !strings.HasSuffix(d, "\n") {
				w.Inputs[i].Data += "\n"
			}
		}
		limit := marsh.Read(p, o, w, 60).Steps()
		o.Separate, o.InPlace = true, false
		a, _ := spec.Run(p, o, w, limit)
		o.InPlace = true
		b, why := spec.Run(p, o, w, limit)
		for i, e := range b.Effects {
			if e.Kind == edit {
				b.Effects[i] = api.Effect{Kind: out, Text: e.Text}
				edits++
			}
		}
		if why != api.OK || marsh.Show(a) != marsh.Show(b) {
			t.Fatalf("%s\n%s: error %d: %s\nnot %s", rushes.Show(p), marsh.ShowWorld(w), why, marsh.Show(b), marsh.Show(a))
		}
	}
	if edits < 1000 {
		t.Error("only a few edits:", edits)
	}
}

// 19.3: answers are new memory; what is handed in is neither changed nor kept.
func TestMemory(t *testing.T) {
	chance := rand.New(rand.NewSource(193)).Intn
	for range 1500 {
		p, o, w := grown(t, chance)
		steps := marsh.Read(p, o, w, 60).Steps()
		program, world := rushes.Roomy(p), marsh.Roomy(w)
		a, _ := spec.Run(program, o, world, steps)
		b, _ := spec.Run(program, o, world, steps)
		x, _ := spec.At(program, o, world, steps/2)
		y, _ := spec.At(program, o, world, steps/2)
		spec.Check(world)
		if rushes.Show(program) != rushes.Show(p) || !rushes.Untouched(program) || marsh.ShowWorld(world) != marsh.ShowWorld(w) || !marsh.Untouched(world) {
			t.Fatal("what was handed in is changed")
		}
		meaning, moment := marsh.Show(b), marsh.ShowMoment(y)
		blot(a.Effects)
		for i := range x.Queue[:cap(x.Queue)] {
			x.Queue[:cap(x.Queue)][i] = api.Item{Text: "blot"}
		}
		rushes.Blot(program)
		marsh.Blot(world)
		if marsh.Show(b) != meaning || marsh.ShowMoment(y) != moment {
			t.Fatal("memory is shared")
		}
	}
}

// blot writes over all memory that a list has, spare room too.
func blot(l []api.Effect) {
	l = l[:cap(l)]
	for i := range l {
		l[i] = api.Effect{Kind: 77, Name: "blot", Text: "blot"}
	}
}

// 19.2: by hand.
func TestText(t *testing.T) {
	l := []api.Effect{{Kind: out, Text: "a"}, {Kind: file, Name: "f", Text: "b"}, {Kind: out, Text: ""}, {Kind: edit, Name: "f", Text: "c"}, {Kind: out, Text: "d"}, {Kind: file, Name: "g", Text: "e"}, {Kind: file, Name: "f", Text: "f"}, {Kind: out, Name: "x", Text: "g"}, {Kind: 99, Name: "f", Text: "h"}}
	for _, c := range []struct {
		kind api.EffectKind
		name string
		want string
	}{{out, "", "ad"}, {file, "f", "bf"}, {file, "g", "e"}, {file, "", ""}, {edit, "f", "c"}, {out, "x", "g"}, {99, "f", "h"}, {api.EffectNone, "", ""}, {98, "f", ""}} {
		if got := spec.Text(l, c.kind, c.name); got != c.want {
			t.Errorf("Text(%d, %q) = %q, not %q", c.kind, c.name, got, c.want)
		}
	}
	if spec.Text(nil, out, "") != "" || len(spec.Join(nil)) != 0 || len(spec.Join([]api.Effect{{Kind: out}, {Kind: file, Name: "f"}})) != 0 {
		t.Error("of nothing")
	}
}

// 19.2: neighbours are one, whatever empty ones stand between; each place's text stays.
func TestJoin(t *testing.T) {
	chance := rand.New(rand.NewSource(192)).Intn
	kinds, names := []api.EffectKind{out, file, edit, 0, 9}, []string{"", "f"}
	for range 5000 {
		var l, want []api.Effect
		for range chance(12) {
			e := api.Effect{Kind: kinds[chance(5)%(1+chance(5))], Name: names[chance(2)], Text: []string{"", "", "a", "bc\n"}[chance(4)]}
			l = append(l, e)
			last := len(want) - 1
			switch {
			case e.Text == "":
			case last >= 0 && want[last].Kind == e.Kind && want[last].Name == e.Name:
				want[last].Text += e.Text
			default:
				want = append(want, e)
			}
		}
		given := slices.Clone(l)
		got := spec.Join(l)
		if !slices.Equal(got, want) || !slices.Equal(l, given) {
			t.Fatalf("Join(%v) = %v, not %v", given, got, want)
		}
		for _, kind := range kinds {
			for _, name := range names {
				if spec.Text(got, kind, name) != spec.Text(l, kind, name) {
					t.Fatalf("%v has another text than %v", got, l)
				}
			}
		}
		if blot(got); !slices.Equal(l, given) {
			t.Fatal("memory is shared")
		}
	}
}
