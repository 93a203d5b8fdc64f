package spec_test

import (
	"math/rand"
	"testing"

	"paddock/api"
	"paddock/marsh"
	"paddock/rushes"
	"paddock/spec"
)

// enough is a quota that small runs do not come to.
func enough() api.Quota {
	return api.Quota{Fuel: api.MaxQuota, Memory: api.MaxMemory, Output: api.MaxQuota, Each: api.MaxQuota}
}

// 19.1, 19.8: all letters and addresses, over worlds of all kinds, by the words.
func TestGrown(t *testing.T) {
	for part := range 8 {
		t.Run("", func(t *testing.T) {
			t.Parallel()
			chance := rand.New(rand.NewSource(int64(1900 + part))).Intn
			stops := map[api.StopKind]int{}
			for i := range 3000 {
				text := marsh.Script(chance, 1+i%9)
				p, o, w := rushes.Read(t, text, i%2 == 0), marsh.Options(chance), marsh.World(chance)
				c := marsh.Read(p, o, w, 60)
				limit := c.Steps()
				if !c.Cut {
					limit += chance(3)
				}
				want := c.Meaning(limit, enough())
				got, why := spec.Run(p, o, w, limit)
				if why != api.OK || marsh.Show(got) != marsh.Show(want) {
					t.Fatalf("%s\n%+v %s, %d steps: error %d\n%s\nnot\n%s", text, o, marsh.ShowWorld(w), limit, why, marsh.Show(got), marsh.Show(want))
				}
				stops[got.Stop]++
				steps := chance(limit + 1)
				at, why := spec.At(p, o, w, steps)
				if meant := c.At(steps); why != api.OK || marsh.ShowMoment(at) != marsh.ShowMoment(meant) {
					t.Fatalf("%s\n%+v %s, behind %d steps: error %d\n%s\nnot\n%s", text, o, marsh.ShowWorld(w), steps, why, marsh.ShowMoment(at), marsh.ShowMoment(meant))
				}
			}
			for _, stop := range []api.StopKind{api.StopNone, api.StopQuit, api.StopExec, api.StopLimit} {
				if stops[stop] < 75 {
					t.Errorf("only a few runs end by %d: %d", stop, stops[stop])
				}
			}
		})
	}
}
