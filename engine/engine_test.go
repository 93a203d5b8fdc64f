package engine_test

import (
	"testing"

	"paddock/api"
	"paddock/engine"
	"paddock/marsh"
	"paddock/rushes"
	"paddock/spec"
)

// much is more than small runs use.
func much() api.Quota { return api.Quota{Fuel: 1000, Memory: 1000, Output: 1000, Each: 1000} }

// The chapter's examples.
func TestExamples(t *testing.T) {
	w := marsh.Inputs("a\nb\n")
	for _, c := range []struct {
		s    string
		q    api.Quota
		want string
	}{
		{"p", api.Quota{Fuel: 1, Memory: 9, Output: 99}, `stop 4; code 4; steps 1; cost 1; peak 1; 1 "" "a\n"; 1 "" "a\n"`},
		{"p", api.Quota{Fuel: 2, Memory: 9, Output: 99}, `stop 0; code 0; steps 2; cost 2; peak 1; 1 "" "a\n"; 1 "" "a\n"; 1 "" "b\n"; 1 "" "b\n"`},
		{"p", api.Quota{Fuel: 9, Memory: 9, Output: 5}, `stop 6; code 4; steps 2; cost 2; peak 1; 1 "" "a\n"; 1 "" "a\n"`},
		{"s/b/x/", api.Quota{Fuel: 5, Memory: 9, Output: 99}, `stop 4; code 4; steps 2; cost 5; peak 1; 1 "" "a\n"`},
		{"s/b/x/", api.Quota{Fuel: 6, Memory: 9, Output: 99}, `stop 0; code 0; steps 2; cost 6; peak 1; 1 "" "a\n"; 1 "" "x\n"`},
		{"G", api.Quota{Fuel: 9, Memory: 1, Output: 99}, `stop 5; code 4; steps 1; cost 1; peak 1`},
		{"H", api.Quota{Fuel: 9, Memory: 3, Output: 99}, `stop 5; code 4; steps 2; cost 2; peak 3; 1 "" "a\n"`},
		{"w o", api.Quota{Fuel: 9, Memory: 9, Output: 99, Each: 3}, `stop 7; code 4; steps 2; cost 2; peak 1; 2 "o" "a\n"; 1 "" "a\n"`},
		{":a;ba", api.Quota{Fuel: 9, Memory: 9, Output: 99}, `stop 4; code 4; steps 9; cost 9; peak 1`},
		{"e ls", much(), `stop 2; code 3; steps 1; cost 1; peak 1`},
		{"q7", much(), `stop 1; code 7; steps 1; cost 1; peak 1; 1 "" "a\n"`},
		{"", api.Quota{Memory: 1, Output: 4}, `stop 0; code 0; steps 0; cost 0; peak 1; 1 "" "a\n"; 1 "" "b\n"`},
		{"", api.Quota{Output: 4}, `stop 5; code 4; steps 0; cost 0; peak 0`},
		{"", api.Quota{Memory: 1, Output: 3}, `stop 6; code 4; steps 0; cost 0; peak 1; 1 "" "a\n"`},
		{"d", api.Quota{Fuel: 2, Memory: 1}, `stop 0; code 0; steps 2; cost 2; peak 1`},
	} {
		m, why := engine.Run(rushes.Read(t, c.s, false), api.Options{}, w, c.q)
		if why != api.OK || marsh.Show(m) != c.want {
			t.Errorf("%q, %v: error %d: %s", c.s, c.q, why, marsh.Show(m))
		}
	}
	q, ok, why := engine.Need(rushes.Read(t, "p", false), api.Options{}, w, 100)
	if why != api.OK || !ok || q != (api.Quota{Fuel: 2, Memory: 1, Output: 8}) {
		t.Error("Need:", q, ok, why)
	}
}

// P20.1, P20.2, P20.2b: errors, which one comes first, and nothing beside them; numbers at the edges and one past them.
func TestErrors(t *testing.T) {
	right, wrong := rushes.Read(t, "p", false), api.Program{Steps: []api.Step{{Command: api.Command{Name: 'k'}}}}
	good, bad := marsh.Inputs("a\n"), api.World{Inputs: []api.Text{{}}}
	most := api.Quota{Fuel: api.MaxQuota, Memory: api.MaxMemory, Output: api.MaxQuota, Each: api.MaxQuota}
	const least, great = -1 << 63, 1<<63 - 1
	quotas := map[api.Quota]api.Errno{{}: api.OK, most: api.OK}
	for _, n := range []int{least, -1, great} {
		for _, q := range []api.Quota{{Fuel: n}, {Memory: n}, {Output: n}, {Each: n}} {
			quotas[q] = api.ErrRange
		}
	}
	for _, q := range []api.Quota{{Fuel: api.MaxQuota + 1}, {Memory: api.MaxMemory + 1}, {Output: api.MaxQuota + 1}, {Each: api.MaxQuota + 1}} {
		quotas[q] = api.ErrRange
	}
	none := marsh.Show(api.Meaning{})
	for q, want := range quotas {
		for i, c := range []struct {
			p    api.Program
			w    api.World
			want api.Errno
		}{{wrong, bad, api.ErrProgram}, {wrong, good, api.ErrProgram}, {right, bad, api.ErrWorld}, {right, good, want}} {
			m, why := engine.Run(c.p, api.Options{}, c.w, q)
			if why != c.want || why != api.OK && marsh.Show(m) != none {
				t.Errorf("%d, %v: Run has error %d, not %d: %s", i, q, why, c.want, marsh.Show(m))
			}
		}
		if m, why := engine.RunOver(wrong, api.Options{}, q, nil); why != api.ErrNil || marsh.Show(m) != none {
			t.Errorf("RunOver has error %d: %s", why, marsh.Show(m))
		}
		over := engine.Over(good, right, false)
		if m, why := engine.RunOver(wrong, api.Options{}, q, over); why != api.ErrProgram || marsh.Show(m) != none {
			t.Errorf("RunOver has error %d: %s", why, marsh.Show(m))
		}
		if m, why := engine.RunOver(right, api.Options{}, q, over); why != want || why != api.OK && marsh.Show(m) != none {
			t.Errorf("%v: RunOver has error %d, not %d: %s", q, why, want, marsh.Show(m))
		}
	}
	for i, c := range []struct {
		p     api.Program
		w     api.World
		limit int
		want  api.Errno
	}{
		{wrong, bad, -1, api.ErrProgram}, {right, bad, -1, api.ErrWorld}, {right, good, -1, api.ErrRange}, {right, good, api.MaxNumber + 1, api.ErrRange}, {right, good, api.MaxNumber, api.OK}, {right, good, 0, api.OK},
	} {
		q, ok, why := engine.Need(c.p, api.Options{}, c.w, c.limit)
		if why != c.want || (why != api.OK || c.limit == 0) && (ok || q != api.Quota{}) {
			t.Errorf("%d: Need is %v, %v, error %d, not %d", i, q, ok, why, c.want)
		}
	}
	if engine.Over(bad, right, true) != nil || engine.Over(good, wrong, false) != nil || engine.Over(bad, wrong, false) != nil || engine.Over(good, right, false) == nil || engine.Over(api.World{}, api.Program{}, true) == nil {
		t.Error("Over")
	}
}

// P20.2: by hand.
func TestNeed(t *testing.T) {
	for _, c := range []struct {
		s    string
		o    api.Options
		in   []string
		want api.Quota
	}{
		{"", api.Options{}, nil, api.Quota{}},
		{"p", api.Options{}, nil, api.Quota{}},
		{"", api.Options{}, []string{"a\nbcd"}, api.Quota{Memory: 3, Output: 5}},
		{"#n\nw o\n1w u\nw u", api.Options{}, []string{"a\nbcd"}, api.Quota{Fuel: 6, Memory: 3, Each: 7}},
		{"w o\nw /dev/stdout", api.Options{}, []string{"a\nb\n"}, api.Quota{Fuel: 4, Memory: 1, Output: 8, Each: 4}},
		{"w o\n2p", api.Options{InPlace: true}, []string{"a\nb\n", "c\n"}, api.Quota{Fuel: 6, Memory: 1, Each: 6}},
		{"1w o\n2p", api.Options{InPlace: true}, []string{"a\nb\n", "c\n"}, api.Quota{Fuel: 6, Memory: 1, Each: 6}},
		{"h;G;s/a/b/gw o", api.Options{}, []string{"a\n"}, api.Quota{Fuel: 3 + 2 + 3 + 1, Memory: 4, Output: 4, Each: 4}},
		{"e", api.Options{}, []string{"a\n"}, api.Quota{Fuel: 1, Memory: 1}},
		{"q", api.Options{}, []string{"a\n"}, api.Quota{Fuel: 1, Memory: 1, Output: 2}},
	} {
		q, ok, why := engine.Need(rushes.Read(t, c.s, false), c.o, marsh.Inputs(c.in...), 99)
		if why != api.OK || !ok || q != c.want {
			t.Errorf("%q: %v, %v, error %d; not %v", c.s, q, ok, why, c.want)
		}
	}
	same := api.World{Inputs: []api.Text{{Name: "x", Data: "a\n"}, {Name: "x", Data: "b\n"}, {Name: "y", Data: "c\nd\n"}}}
	if q, ok, _ := engine.Need(rushes.Read(t, "p", false), api.Options{InPlace: true}, same, 99); !ok || q.Each != 8 || q.Output != 0 {
		t.Error("edits of one name:", q)
	}
	if q, ok, why := engine.Need(rushes.Read(t, "p", false), api.Options{}, marsh.Inputs("a\nb\n"), 1); why != api.OK || ok || q != (api.Quota{}) {
		t.Error("too few steps:", q, ok, why)
	}
}

// P20.1: effects in the order in which they are asked for: what is written ahead of what is too much is done.
func TestOrder(t *testing.T) {
	for _, c := range []struct {
		s    string
		q    api.Quota
		want string
	}{
		// a line that is taken: first the queue, effect by effect, then the space
		{"a x\na y\nN", api.Quota{Fuel: 9, Memory: 9, Output: 3}, `stop 6; code 4; steps 3; cost 3; peak 5; 1 "" "x\n"`},
		{"a x\nN", api.Quota{Fuel: 9, Memory: 3, Output: 9}, `stop 5; code 4; steps 2; cost 2; peak 3; 1 "" "x\n"`},
		// n: first P is printed
		{"a x\nn", api.Quota{Fuel: 9, Memory: 3, Output: 1}, `stop 6; code 4; steps 2; cost 2; peak 3`},
		{"a x\nn", api.Quota{Fuel: 9, Memory: 3, Output: 2}, `stop 6; code 4; steps 2; cost 2; peak 3; 1 "" "a\n"`},
		{"n", api.Quota{Fuel: 9, Memory: 1, Output: 9}, `stop 5; code 4; steps 1; cost 1; peak 1; 1 "" "a\n"`},
		// s: first all places, then the space, then what is printed
		{"s/a*/bbbbb/gpw o", api.Quota{Fuel: 8, Memory: 1, Output: 0}, `stop 4; code 4; steps 1; cost 8; peak 1`},
		{"s/a/bbbbb/gpw o", api.Quota{Fuel: 9, Memory: 4, Output: 0}, `stop 5; code 4; steps 1; cost 4; peak 1`},
		{"s/a/bbbbb/gpw o", api.Quota{Fuel: 9, Memory: 5, Output: 5}, `stop 6; code 4; steps 1; cost 4; peak 5`},
		{"s/a/bbbbb/gpw o", api.Quota{Fuel: 9, Memory: 5, Output: 6, Each: 5}, `stop 7; code 4; steps 1; cost 4; peak 5; 1 "" "bbbbb\n"`},
		{"s/a/bbbbb/egpw o", api.Quota{Fuel: 9, Memory: 4}, `stop 5; code 4; steps 1; cost 4; peak 1`},
		{"s/a/bbbbb/egpw o", api.Quota{Fuel: 9, Memory: 5}, `stop 2; code 3; steps 1; cost 4; peak 5`},
		// a step ahead of its address
		{"/b/p", api.Quota{Fuel: 0, Memory: 9}, `stop 4; code 4; steps 0; cost 0; peak 1`},
		{"/b/p", api.Quota{Fuel: 1, Memory: 9}, `stop 4; code 4; steps 1; cost 1; peak 1`},
		{"/b/p", api.Quota{Fuel: 2, Memory: 9}, `stop 4; code 4; steps 1; cost 2; peak 1`},
		// no end of the cycle behind what is too much
		{"a x\nH", api.Quota{Fuel: 9, Memory: 4, Output: 9}, `stop 5; code 4; steps 2; cost 2; peak 3`},
		// c writes ahead of Set; q at its end
		{"c\\\nxy", api.Quota{Fuel: 9, Memory: 9, Output: 2}, `stop 6; code 4; steps 1; cost 1; peak 1`},
		{"q5", api.Quota{Fuel: 9, Memory: 9, Output: 1}, `stop 6; code 4; steps 1; cost 1; peak 1`},
		{"Q5", api.Quota{Fuel: 9, Memory: 9}, `stop 1; code 5; steps 1; cost 1; peak 1`},
		{"a x\nq5", api.Quota{Fuel: 9, Memory: 9, Output: 3}, `stop 6; code 4; steps 2; cost 2; peak 3; 1 "" "a\n"`},
	} {
		m, why := engine.Run(rushes.Read(t, c.s, false), api.Options{}, marsh.Inputs("a\nbb\n"), c.q)
		if why != api.OK || marsh.Show(m) != c.want {
			t.Errorf("%q, %v: error %d: %s", c.s, c.q, why, marsh.Show(m))
		}
	}
}

// P20.1: bytes are counted by kind and name: edits of one name together, /dev/stdout with the standard output.
func TestPlaces(t *testing.T) {
	w := api.World{Inputs: []api.Text{{Name: "x", Data: "a\n"}, {Name: "x", Data: "b\n"}, {Name: "y", Data: "c\n"}}}
	for _, c := range []struct {
		s       string
		o       api.Options
		q       api.Quota
		stop    api.StopKind
		effects int
	}{
		{"", api.Options{InPlace: true}, api.Quota{Memory: 9, Each: 3}, api.StopEach, 1},
		{"", api.Options{InPlace: true}, api.Quota{Memory: 9, Each: 4}, api.StopNone, 3},
		{"w /dev/stdout", api.Options{}, api.Quota{Memory: 9, Fuel: 9, Output: 11}, api.StopOutput, 5},
		{"w /dev/stdout", api.Options{}, api.Quota{Memory: 9, Fuel: 9, Output: 12}, api.StopNone, 6},
		{"w /dev/stdout", api.Options{InPlace: true}, api.Quota{Memory: 9, Fuel: 9, Output: 5, Each: 4}, api.StopOutput, 4},
		{"w x", api.Options{InPlace: true}, api.Quota{Memory: 9, Fuel: 9, Each: 6}, api.StopNone, 6},
		{"w x", api.Options{InPlace: true}, api.Quota{Memory: 9, Fuel: 9, Each: 5}, api.StopEach, 4},
		{"w x\nw y\nw y", api.Options{Quiet: true}, api.Quota{Memory: 9, Fuel: 9, Each: 6}, api.StopEach, 5},
	} {
		m, why := engine.Run(rushes.Read(t, c.s, false), c.o, w, c.q)
		if why != api.OK || m.Stop != c.stop || len(m.Effects) != c.effects {
			t.Errorf("%q, %v: error %d: %s", c.s, c.q, why, marsh.Show(m))
		}
	}
}

// P20.1: a quota of as much as may be.
func TestGreatest(t *testing.T) {
	most := api.Quota{Fuel: api.MaxQuota, Memory: api.MaxMemory, Output: api.MaxQuota, Each: api.MaxQuota}
	for _, s := range []string{"p", "s/a/b/g;w o", "$!N;P;D", "q3"} {
		p, w := rushes.Read(t, s, false), marsh.Inputs("a\nb\n", "c")
		m, why := engine.Run(p, api.Options{}, w, most)
		if want, _ := spec.Run(p, api.Options{}, w, 999); why != api.OK || marsh.Show(m) != marsh.Show(want) {
			t.Errorf("%q: error %d: %s", s, why, marsh.Show(m))
		}
	}
	m, why := engine.Run(rushes.Read(t, ":a;G;h;ba", false), api.Options{}, marsh.Inputs("a\n"), most)
	if why != api.OK || m.Stop != api.StopMemory || m.Peak > api.MaxMemory || m.Peak < api.MaxMemory/4 {
		t.Error(why, m.Stop, m.Peak)
	}
}
