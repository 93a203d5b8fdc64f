package engine_test

import (
	"math/rand"
	"slices"
	"testing"

	"paddock/api"
	"paddock/engine"
	"paddock/marsh"
	"paddock/rushes"
	"paddock/spec"
)

// steps is how many are read of a run.
const steps = 60

// unbounded is a number of steps that no run comes to.
const unbounded = 1 << 62

// around is a number near one, or any below it.
func around(chance func(int) int, n int) int {
	if chance(3) == 0 {
		return chance(n + 1)
	}
	return max(0, n+1-chance(4))
}

// P20.1: programs of all kinds within quotas of all kinds, by the words.
func TestGrown(t *testing.T) {
	for part := range 8 {
		t.Run("", func(t *testing.T) {
			t.Parallel()
			chance := rand.New(rand.NewSource(int64(2000 + part))).Intn
			stops := map[api.StopKind]int{}
			for i := range 3000 {
				text := marsh.Script(chance, 1+i%9)
				p, o, w := rushes.Read(t, text, i%2 == 0), marsh.Options(chance), marsh.World(chance)
				c := marsh.Read(p, o, w, steps)
				all := c.Meaning(c.Steps(), endless())
				for range 3 {
					q := api.Quota{Fuel: around(chance, all.Cost), Memory: around(chance, all.Peak), Output: around(chance, sizes(all).Output), Each: around(chance, sizes(all).Each)}
					q = loosened(chance, q)
					if c.Cut {
						q.Fuel = min(q.Fuel, all.Cost)
					}
					want := c.Meaning(unbounded, q)
					got, why := engine.Run(p, o, w, q)
					if why != api.OK || marsh.Show(got) != marsh.Show(want) {
						t.Fatalf("%s\n%+v %s, %v: error %d\n%s\nnot\n%s", text, o, marsh.ShowWorld(w), q, why, marsh.Show(got), marsh.Show(want))
					}
					stops[got.Stop]++
				}
			}
			for stop := api.StopNone; stop <= api.StopEach; stop++ {
				if stops[stop] < 100 && stop != api.StopLimit {
					t.Errorf("only a few runs end by %d: %d", stop, stops[stop])
				}
			}
		})
	}
}

// endless is more than what is read of a run uses.
func endless() api.Quota {
	return api.Quota{Fuel: api.MaxQuota, Memory: api.MaxMemory, Output: api.MaxQuota, Each: api.MaxQuota}
}

// loosened is a quota in which all numbers but some are great.
func loosened(chance func(int) int, q api.Quota) api.Quota {
	for _, n := range []*int{&q.Fuel, &q.Memory, &q.Output, &q.Each} {
		if chance(2) == 0 {
			*n = api.MaxMemory
		}
	}
	return q
}

// sizes are the bytes of the standard output, and the most of another place.
func sizes(m api.Meaning) api.Quota {
	var q api.Quota
	for _, e := range m.Effects {
		n := len(spec.Text(m.Effects, e.Kind, e.Name))
		if e.Kind == api.EffectOut {
			q.Output = n
		} else {
			q.Each = max(q.Each, n)
		}
	}
	return q
}

// isFront tells whether effects are the first ones of others.
func isFront(l, of []api.Effect) bool {
	return len(l) <= len(of) && slices.Equal(l, of[:len(l)])
}

// P20.2, P20.4, P20.5: Need is enough, all that is nowhere below it is; with one less it is not.
func TestJustSoMuch(t *testing.T) {
	chance := rand.New(rand.NewSource(204)).Intn
	ended := 0
	for range 4000 {
		p, o, w := rushes.Read(t, marsh.Script(chance, 1+chance(8)), false), marsh.Options(chance), marsh.World(chance)
		c := marsh.Read(p, o, w, steps)
		want, _ := spec.Run(p, o, w, c.Steps())
		q, ok, why := engine.Need(p, o, w, c.Steps())
		if c.Cut {
			if why != api.OK || ok || q != (api.Quota{}) {
				t.Fatalf("Need of a run that has no end yet: %v, %v, error %d", q, ok, why)
			}
			continue
		}
		ended++
		meant := api.Quota{Fuel: want.Cost, Memory: want.Peak, Output: sizes(want).Output, Each: sizes(want).Each}
		if why != api.OK || !ok || q != meant {
			t.Fatalf("%s\nNeed is %v, %v, error %d; not %v", rushes.Show(p), q, ok, why, meant)
		}
		more := api.Quota{Fuel: q.Fuel + chance(3), Memory: q.Memory + chance(3), Output: q.Output + chance(3), Each: q.Each + chance(3)}
		for _, enough := range []api.Quota{q, more} {
			if m, why := engine.Run(p, o, w, enough); why != api.OK || marsh.Show(m) != marsh.Show(want) {
				t.Fatalf("%s\n%v: error %d: %s\nnot %s", rushes.Show(p), enough, why, marsh.Show(m), marsh.Show(want))
			}
		}
		for stop, less := range map[api.StopKind]api.Quota{
			api.StopFuel:   {Fuel: q.Fuel - 1, Memory: more.Memory, Output: q.Output, Each: more.Each},
			api.StopMemory: {Fuel: q.Fuel, Memory: q.Memory - 1, Output: more.Output, Each: q.Each},
			api.StopOutput: {Fuel: more.Fuel, Memory: q.Memory, Output: q.Output - 1, Each: q.Each},
			api.StopEach:   {Fuel: q.Fuel, Memory: more.Memory, Output: q.Output, Each: q.Each - 1},
		} {
			m, why := engine.Run(p, o, w, less)
			if min(less.Fuel, less.Memory, less.Output, less.Each) < 0 {
				if why != api.ErrRange {
					t.Fatalf("%v: error %d", less, why)
				}
			} else if why != api.OK || m.Stop != stop || m.Code != 4 || !isFront(m.Effects, want.Effects) {
				t.Fatalf("%s\n%v: error %d: %s\nnot %d", rushes.Show(p), less, why, marsh.Show(m), stop)
			}
		}
	}
	if ended < 2000 {
		t.Error("only a few runs end:", ended)
	}
}

// P20.6, P20.7, P20.8: fronts, within the quota; more is more.
func TestFronts(t *testing.T) {
	chance := rand.New(rand.NewSource(206)).Intn
	for range 5000 {
		p, o, w := rushes.Read(t, marsh.Script(chance, 1+chance(8)), false), marsh.Options(chance), marsh.World(chance)
		q := api.Quota{Fuel: chance(60), Memory: chance(30), Output: chance(40), Each: chance(30)}
		more := api.Quota{Fuel: q.Fuel + chance(9), Memory: q.Memory + chance(5), Output: q.Output + chance(9), Each: q.Each + chance(9)}
		m, why := engine.Run(p, o, w, q)
		if s := sizes(m); why != api.OK || m.Cost > q.Fuel || m.Steps > m.Cost || m.Peak > q.Memory || s.Output > q.Output || s.Each > q.Each {
			t.Fatalf("%s\n%v: error %d: %s", rushes.Show(p), q, why, marsh.Show(m))
		}
		if n, _ := engine.Run(p, o, w, more); !isFront(m.Effects, n.Effects) || n.Steps < m.Steps || n.Peak < m.Peak {
			t.Fatalf("%s\n%v: %s\nbut with more, %v: %s", rushes.Show(p), q, marsh.Show(m), more, marsh.Show(n))
		}
		want, _ := spec.Run(p, o, w, m.Steps+1)
		if !isFront(m.Effects, want.Effects) || m.Steps > want.Steps || m.Cost > want.Cost || m.Peak > want.Peak {
			t.Fatalf("%s\n%v: %s\nis no front of %s", rushes.Show(p), q, marsh.Show(m), marsh.Show(want))
		}
	}
}
