package output_test

import (
	"math/rand"
	"strings"
	"testing"

	"paddock/api"
	"paddock/engine"
	"paddock/input"
	"paddock/marsh"
	"paddock/rushes"
	"paddock/spec"
	"paddock/wood"
)

// ground is a World of an input and an output, as a run over files has it.
type ground struct {
	*input.Input
	place
	world    api.World
	separate bool
}

func (g ground) Name() string                         { return g.world.Inputs[g.At()].Name }
func (g ground) Fresh() bool                          { return g.separate && g.Input.Fresh() }
func (g ground) File(name string) (string, api.Errno) { return g.Read(name) }
func (g ground) Exec(command string) api.Errno        { return g.gate.Exec(command) }

// laid is a ground over a world: the other files are its tree.
func laid(t *testing.T, w api.World, separate bool) ground {
	t.Helper()
	var files, dev []api.File
	for _, x := range w.Others {
		name, below := strings.CutPrefix(x.Name, "/dev/")
		switch {
		case x.Gone:
		case below:
			dev = append(dev, wood.Text(name, x.Data))
		default:
			files = append(files, wood.Text(name, x.Data))
		}
	}
	tree := wood.Root(wood.Rising(append(files, wood.Dir("dev", dev...)))...)
	x := input.New(marsh.Source(w.Inputs), len(w.Inputs), separate)
	return ground{x, made(t, tree, wood.Paths("/"), wood.Paths("/")), w, separate}
}

// 21.2, 21.3, P22.6, P22.7: a run over an input and an output does what it means.
func TestUnderTheEngine(t *testing.T) {
	chance := rand.New(rand.NewSource(2122)).Intn
	quota := api.Quota{Fuel: 300, Memory: 300, Output: 400, Each: 300}
	files := 0
	for range 6000 {
		p, o, w := rushes.Read(t, marsh.Script(chance, 1+chance(8)), false), marsh.Options(chance), marsh.World(chance)
		o.InPlace = false
		g := laid(t, w, o.Separate)
		if why := g.Open(p.Files); why != api.OK {
			t.Fatalf("Open(%q) = %d", p.Files, why)
		}
		got, why := engine.RunOver(p, o, quota, g)
		want, no := engine.Run(p, o, w, quota)
		if why != no || marsh.Show(got) != marsh.Show(want) || g.Stdout() != spec.Text(want.Effects, api.EffectOut, "") {
			t.Fatalf("%s\nin %s: %q, error %d: %s\nnot %d: %s", rushes.Show(p), marsh.ShowWorld(w), g.Stdout(), why, marsh.Show(got), no, marsh.Show(want))
		}
		table := wood.Table(g.files.Tree())
		for _, x := range g.Files() {
			text := spec.Text(want.Effects, api.EffectFile, x.Name)
			if x.Data != text || table["/"+x.Name].Data != text {
				t.Fatalf("%s\n%s has %q, %q, not %q", rushes.Show(p), x.Name, x.Data, table["/"+x.Name].Data, text)
			}
			files += min(len(text), 1)
		}
	}
	if files < 500 {
		t.Error("only a few files were written to:", files)
	}
}
