package debug_test

import (
	"math/rand"
	"runtime"
	"strings"
	"testing"

	"paddock/api"
	"paddock/debug"
	"paddock/marsh"
	"paddock/rushes"
)

// grown is a program by chance, with what it is run over.
func grown(t *testing.T, chance func(int) int) (api.Program, api.Options, api.World) {
	t.Helper()
	return rushes.Read(t, marsh.Script(chance, 1+chance(8)), false), marsh.Options(chance), marsh.World(chance)
}

// chosen is how many steps are gone at most: of a course that is cut no more than it has.
func chosen(chance func(int) int, d *plain) int {
	left := 100
	if d.course.Cut {
		left = d.course.Steps() - d.at
	}
	return min(left, []int{0, 1, 1, 2, 3, chance(10), 100}[chance(7)])
}

// 27.3, 27.6, 27.7: gone through in whatever way, the moments are those of the run, and the effects too.
func TestWays(t *testing.T) {
	chance := rand.New(rand.NewSource(276)).Intn
	broken, ended, backs := 0, 0, 0
	for range 1500 {
		p, o, w := grown(t, chance)
		d := began(t, p, o, w)
		x := &plain{course: marsh.Read(p, o, w, 60), breaks: make([]bool, len(p.Steps)+1)}
		for range 20 {
			var got, want api.Moment
			var why api.Errno
			switch chance(6) {
			case 0:
				step := chance(len(p.Steps) + 1)
				set := chance(3) > 0
				call := d.Clear
				if set {
					call = d.Break
				}
				if why := call(step); (why == api.OK) != (step < len(p.Steps)) {
					t.Fatalf("a break at %d of %d: error %d", step, len(p.Steps), why)
				}
				x.breaks[step] = set && step < len(p.Steps)
				continue
			case 1, 2:
				steps := chance(x.at + 1)
				got, why = d.Back(steps)
				want = x.back(steps)
				backs++
			default:
				most := chosen(chance, x)
				from := x.at
				got, why = d.Go(most)
				want = x.goes(most)
				if want.Over {
					ended++
				} else if x.at < from+most {
					broken++
				}
			}
			if why != api.OK || marsh.ShowMoment(got) != marsh.ShowMoment(want) || marsh.ShowMoment(d.Now()) != marsh.ShowMoment(want) {
				t.Fatalf("%s\n%s: error %d\n%s\nnot %s", rushes.Show(p), marsh.ShowWorld(w), why, marsh.ShowMoment(got), marsh.ShowMoment(want))
			}
			if debug.Say(p, got) != said(p, want) {
				t.Fatalf("said %s\nnot %s", debug.Say(p, got), said(p, want))
			}
			if got, want := showEffects(d.Effects()), showEffects(x.effects()); got != want {
				t.Fatalf("%s\n%s: behind %d steps\n%s\nnot %s", rushes.Show(p), marsh.ShowWorld(w), x.at, got, want)
			}
		}
	}
	if broken < 1000 || ended < 1000 || backs < 1000 {
		t.Error("only a few:", broken, ended, backs)
	}
}

// 27.8: Back(n) behind a Go that went n steps.
func TestThereAndBack(t *testing.T) {
	chance := rand.New(rand.NewSource(278)).Intn
	for range 500 {
		p, o, w := grown(t, chance)
		x := &plain{course: marsh.Read(p, o, w, 60)}
		d := began(t, p, o, w)
		for i := range p.Steps {
			if chance(4) == 0 {
				d.Break(i)
			}
		}
		for range 10 {
			stood, effects := d.Now(), showEffects(d.Effects())
			x.at = stood.Done
			there, _ := d.Go(chosen(chance, x))
			back, why := d.Back(there.Done - stood.Done)
			if why != api.OK || marsh.ShowMoment(back) != marsh.ShowMoment(stood) || showEffects(d.Effects()) != effects {
				t.Fatalf("%s: error %d, %s, not %s", rushes.Show(p), why, marsh.ShowMoment(back), marsh.ShowMoment(stood))
			}
			d.Go(there.Done - stood.Done)
		}
	}
}

// Two debuggers have nothing to do with one another.
func TestApart(t *testing.T) {
	p, w := rushes.Read(t, "p;=", false), marsh.Inputs("a\nb\n")
	a, b := began(t, p, api.Options{}, w), began(t, p, api.Options{}, w)
	a.Break(1)
	a.Go(9)
	at(t, "the other one", b.Now(), api.OK, "done 0; next 0")
	m, why := b.Go(9)
	at(t, "the other one", m, why, "done 4; next 2")
	at(t, "the first one", a.Now(), api.OK, "done 1; next 1")
}

// 27.5: answers are new memory; what is handed in is neither changed nor kept.
func TestMemory(t *testing.T) {
	chance := rand.New(rand.NewSource(275)).Intn
	queued := 0
	for range 800 {
		p, o, w := grown(t, chance)
		most := marsh.Read(p, o, w, 60).Steps()
		program, world := rushes.Roomy(p), marsh.Roomy(w)
		d := began(t, program, o, world)
		m, _ := d.Go(min(most, 1+chance(5)))
		debug.Say(program, m)
		if rushes.Show(program) != rushes.Show(p) || !rushes.Untouched(program) || marsh.ShowWorld(world) != marsh.ShowWorld(w) || !marsh.Untouched(world) {
			t.Fatal("what was handed in is changed")
		}
		rushes.Blot(program)
		marsh.Blot(world)
		want, effects := marsh.ShowMoment(m), showEffects(d.Effects())
		queued += len(m.Queue)
		now, back := d.Now(), api.Moment{}
		for _, x := range []api.Moment{m, now} {
			blotItems(x.Queue)
		}
		back, _ = d.Back(0)
		blotItems(back.Queue)
		l := d.Effects()
		for i := range l[:cap(l)] {
			l[:cap(l)][i] = api.Effect{Kind: 77, Text: "blot"}
		}
		d.Go(min(most-m.Done, 3))
		again, _ := d.Back(d.Now().Done - m.Done)
		if marsh.ShowMoment(again) != want || marsh.ShowMoment(d.Now()) != want || showEffects(d.Effects()) != effects {
			t.Fatalf("memory is shared: %s, not %s", marsh.ShowMoment(again), want)
		}
	}
	if queued < 50 {
		t.Error("only a few items:", queued)
	}
}

func blotItems(l []api.Item) {
	l = l[:cap(l)]
	for i := range l {
		l[i] = api.Item{Kind: 77, Text: "blot"}
	}
}

// A break far behind is come to in one run.
func TestFar(t *testing.T) {
	p := rushes.Read(t, ":a;g;2d;ba;p", false)
	d := began(t, p, api.Options{}, marsh.Inputs("a\nb\n"))
	d.Break(3)
	d.Break(1)
	m, why := d.Go(300)
	at(t, "the first break", m, why, "done 1; next 1")
	d.Clear(1)
	m, why = d.Go(300000)
	at(t, "no break", m, why, "done 300001; next 1")
	m, why = d.Back(300000)
	at(t, "back", m, why, "done 1; next 1")
}

// What is kept of moments that were shown stays within bounds, however many there are.
func TestKept(t *testing.T) {
	const size = 1 << 20
	p := rushes.Read(t, ":a;y/ab/ba/;ba", false)
	d := began(t, p, api.Options{}, marsh.Inputs(strings.Repeat("a", size)+"\n"))
	used := func() uint64 {
		var m runtime.MemStats
		runtime.GC()
		runtime.ReadMemStats(&m)
		return m.HeapAlloc
	}
	before := used()
	for range 40 {
		d.Go(1)
	}
	if now := used(); now > before+15*size {
		t.Errorf("%d bytes are kept", now-before)
	}
	first, _ := d.Back(39)
	if first.Done != 1 || first.Pattern != strings.Repeat("b", size) {
		t.Error("the first one is another one")
	}
	runtime.KeepAlive(d)
}
