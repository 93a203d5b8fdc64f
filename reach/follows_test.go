package reach_test

import (
	"math/rand"
	"slices"
	"testing"

	"paddock/api"
	"paddock/program"
	"paddock/reach"
	"paddock/rushes"
)

// P16.5, P16.8: what a live step leads to is live; ways are ways; what is Written stands in Files.
func TestClosed(t *testing.T) {
	chance := rand.New(rand.NewSource(2)).Intn
	g := rushes.NewGrower(t, chance)
	for range 1500 {
		p := g.Grow(chance(40))
		r, why := reach.Of(p, false)
		if why != api.OK || len(r.Live) != len(p.Steps) || len(r.Live) > 0 && !r.Live[0] {
			t.Fatalf("error %d: %s", why, rushes.Show(p))
		}
		most, once, _ := reach.Bound(p, false)
		for i, live := range r.Live {
			for _, to := range program.Flow(p, i) {
				if live && to < len(p.Steps) && !r.Live[to] {
					t.Fatalf("step %d is dead: %s", to, rushes.Show(p))
				}
			}
			w, ok, _ := reach.Way(p, false, i)
			if ok != live || ok && (w[0] != 0 || w[len(w)-1] != i || once && len(w) > most || len(w) > len(p.Steps)) {
				t.Fatalf("Way to %d: %v, %v: %s", i, w, ok, rushes.Show(p))
			}
			for k := range max(0, len(w)-1) {
				if !slices.Contains(program.Flow(p, w[k]), w[k+1]) {
					t.Fatalf("%v is no way: %s", w, rushes.Show(p))
				}
			}
		}
		for _, name := range r.Written {
			if !slices.Contains(p.Files, name) {
				t.Fatalf("%q is none of Files: %s", name, rushes.Show(p))
			}
		}
	}
}

// P16.6: whatever stands in the place of a dead step, the others are as live as they were.
func TestDead(t *testing.T) {
	chance := rand.New(rand.NewSource(3)).Intn
	g := rushes.NewGrower(t, chance)
	tried := 0
	for range 8000 {
		p := g.Grow(1 + chance(10))
		r, _ := reach.Of(p, false)
		i := slices.Index(r.Live, false)
		if i < 0 {
			continue
		}
		other := rushes.Clone(p)
		from := g.Grow(1 + chance(len(p.Steps)))
		other.Steps[i] = from.Steps[chance(len(from.Steps))]
		other.Files = rushes.Files(other.Steps)
		got, why := reach.Of(other, false)
		if why != api.OK { // a block that is none any more
			continue
		}
		tried++
		got.Live[i] = false
		if !slices.Equal(got.Live, r.Live) || got.Exec != r.Exec || got.Quits != r.Quits || got.Again != r.Again || !slices.Equal(got.Reads, r.Reads) || !slices.Equal(got.Written, r.Written) {
			t.Fatalf("%s, not %s:\n%s\n%s", show(got), show(r), rushes.Show(p), rushes.Show(other))
		}
	}
	if tried < 1000 {
		t.Error("tried:", tried)
	}
}

// P16.7: ways by chance are never longer than Bound; where there is none, some step is on a way to itself.
func TestBounded(t *testing.T) {
	chance := rand.New(rand.NewSource(4)).Intn
	g := rushes.NewGrower(t, chance)
	withouts := 0
	for range 4000 {
		p := g.Grow(chance(30))
		most, once, _ := reach.Bound(p, false)
		if !once {
			withouts++
			if !again(p) {
				t.Fatalf("no Bound: %s", rushes.Show(p))
			}
			continue
		}
		longest := 0
		for range 30 {
			steps := 0
			for at := 0; at < len(p.Steps); {
				steps++
				to := program.Flow(p, at)
				if len(to) == 0 {
					break
				}
				at = to[chance(len(to))]
				if steps > most {
					t.Fatalf("a way of more than %d steps: %s", most, rushes.Show(p))
				}
			}
			longest = max(longest, steps)
		}
		if most > len(p.Steps) || longest > most {
			t.Fatalf("Bound is %d: %s", most, rushes.Show(p))
		}
	}
	if withouts < 500 {
		t.Error("without:", withouts)
	}
}

// P16.4: answers are new memory; what is handed in is neither changed nor kept.
func TestMemory(t *testing.T) {
	chance := rand.New(rand.NewSource(5)).Intn
	g := rushes.NewGrower(t, chance)
	for range 1500 {
		p := rushes.Roomy(g.Grow(1 + chance(10)))
		want := rushes.Show(p)
		a, _ := reach.Of(p, false)
		b, _ := reach.Of(p, false)
		shown := show(b)
		live := a.Live[:cap(a.Live)]
		for i := range live {
			live[i] = !live[i]
		}
		rushes.BlotNames(a.Reads)
		rushes.BlotNames(a.Written)
		i := chance(len(p.Steps))
		way, _, _ := reach.Way(p, false, i)
		kept, _, _ := reach.Way(p, false, i)
		told := slices.Clone(kept)
		for k := range way[:cap(way)] {
			way[:cap(way)][k] = 77
		}
		n, ok, _ := reach.Bound(p, false)
		if m, again, _ := reach.Bound(p, false); n != m || ok != again {
			t.Fatal("Bound answers something else")
		}
		if show(b) != shown || !slices.Equal(kept, told) || rushes.Show(p) != want || !rushes.Untouched(p) {
			t.Fatal("memory is shared")
		}
		if rushes.Blot(p); show(b) != shown || !slices.Equal(kept, told) {
			t.Fatal("what was handed in is kept")
		}
	}
}
