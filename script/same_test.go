package script_test

import (
	"math/rand"
	"slices"
	"strings"
	"testing"

	"paddock/api"
	"paddock/reeds"
	"paddock/script"
	"paddock/twigs"
)

// some is a script, right or not.
func some(t *testing.T, chance func(int) int) api.Script {
	s := reeds.Read(t, reeds.Grow(chance, chance(5)), chance(2) == 0)
	for range chance(3) {
		reeds.Spoil(chance, &s)
	}
	return s
}

// 13.3: Same by its words; a change in any field but At is seen.
func TestSame(t *testing.T) {
	chance := rand.New(rand.NewSource(6)).Intn
	for range 6000 {
		a := some(t, chance)
		b := reeds.Clone(a)
		for i := range b.Commands {
			b.Commands[i].At += chance(3)
		}
		if !script.Same(a, b) || !script.Same(b, a) {
			t.Fatalf("not the same: %s", reeds.Show(a))
		}
		reeds.Spoil(chance, &b)
		if want := reeds.Same(a, b); script.Same(a, b) != want || script.Same(b, a) != want {
			t.Fatalf("Same is not %v:\n%s\n%s", want, reeds.Show(a), reeds.Show(b))
		}
	}
	full := api.Command{First: by(folded("a")), Second: by(folded("b")), Regex: folded("\\(a\\)"), Subst: api.Subst{Pieces: []api.Piece{text("a"), group(1)}}}
	for i, change := range []func(*api.Command){
		func(c *api.Command) { c.First.Kind++ }, func(c *api.Command) { c.First.N++ }, func(c *api.Command) { c.First.Step++ }, func(c *api.Command) { c.First.Regex.Text += "x" }, func(c *api.Command) { c.First.Regex.Last = true }, func(c *api.Command) { c.First.Regex.Fold = false }, func(c *api.Command) { c.First.Regex.Root.Group++ },
		func(c *api.Command) { c.Second.Kind++ }, func(c *api.Command) { c.Second.N++ }, func(c *api.Command) { c.Second.Step++ }, func(c *api.Command) { c.Second.Regex.Text += "x" }, func(c *api.Command) { c.Second.Regex.Last = true }, func(c *api.Command) { c.Second.Regex.Fold = false }, func(c *api.Command) { c.Second.Regex.Root.Set[3]++ },
		func(c *api.Command) { c.Not = true }, func(c *api.Command) { c.Name++ }, func(c *api.Command) { c.Text = "x" }, func(c *api.Command) { c.Other = "x" }, func(c *api.Command) { c.N++ }, func(c *api.Command) { c.Regex.Text += "x" }, func(c *api.Command) { c.Regex.Last = true }, func(c *api.Command) { c.Regex.Fold = false }, func(c *api.Command) { c.Regex.Root.Min++ }, func(c *api.Command) { c.Regex.Root.Kids[0].Max++ }, func(c *api.Command) { c.Regex.Root.Kids = nil },
		func(c *api.Command) { c.Subst.Number++ }, func(c *api.Command) { c.Subst.Global = true }, func(c *api.Command) { c.Subst.Print = true }, func(c *api.Command) { c.Subst.Exec = true }, func(c *api.Command) { c.Subst.File = "x" }, func(c *api.Command) { c.Subst.Pieces[1].N++ }, func(c *api.Command) { c.Subst.Pieces[0].Kind++ }, func(c *api.Command) { c.Subst.Pieces[0].Text += "x" }, func(c *api.Command) { c.Subst.Pieces = c.Subst.Pieces[:1] },
	} {
		a := reeds.Clone(api.Script{Commands: []api.Command{{}, full}})
		b := reeds.Clone(a)
		if change(&b.Commands[1]); script.Same(a, b) || script.Same(b, a) {
			t.Errorf("the change %d is not seen", i)
		}
	}
	a := api.Script{Commands: []api.Command{full}}
	for i, b := range []api.Script{{}, {Commands: []api.Command{full, full}}, {Commands: a.Commands, Quiet: true}, {Commands: a.Commands, Extended: true}} {
		if script.Same(a, b) || script.Same(b, a) {
			t.Errorf("the script %d is not told apart", i)
		}
	}
	if !script.Same(api.Script{}, api.Script{Commands: []api.Command{}}) || !script.Same(api.Script{Commands: []api.Command{{}}}, api.Script{Commands: []api.Command{{Subst: api.Subst{Pieces: []api.Piece{}}, Regex: api.Regex{Root: api.Node{Kids: []api.Node{}}}}}}) {
		t.Error("nil and empty lists are not alike")
	}
}

// 13.3, 13.4: Copy, with its places, in memory of its own.
func TestCopy(t *testing.T) {
	chance := rand.New(rand.NewSource(7)).Intn
	for range 3000 {
		a := reeds.Roomy(some(t, chance))
		want, places := reeds.Show(a), reeds.Places(a)
		b := script.Copy(a)
		if reeds.Show(b) != want || !slices.Equal(reeds.Places(b), places) || !script.Same(a, b) || !reeds.Apart(b) {
			t.Fatalf("Copy of %s is %s", want, reeds.Show(b))
		}
		kept := reeds.Clone(b)
		reeds.Blot(b)
		if reeds.Show(a) != want || !reeds.Untouched(a) {
			t.Fatal("the copy has memory of what was copied")
		}
		c := script.Copy(kept)
		reeds.Blot(kept)
		if reeds.Show(c) != want {
			t.Fatal("what was copied has memory of the copy")
		}
	}
}

// 13.3: Files, of any script.
func TestFiles(t *testing.T) {
	for s, want := range map[string]string{
		"": "", "p": "", "w a": "a", "w a\ns///w b\nw a": "a b", "W b\nw a\nW b": "b a", "r x\nR y\ne z\na w\n": "", "s/a/b/": "", "s/a/b/w x\ns/a/b/w x": "x", "w a\nW a": "a", "{w b\nw a\n}": "b a", "w A\nw a": "A a", ":w\nbw": "",
	} {
		if got := script.Files(reeds.Read(t, s, false)); strings.Join(got, " ") != want {
			t.Errorf("Files of %q: %q", s, got)
		}
	}
	wrong := api.Script{Commands: []api.Command{{Name: 'w'}, {Name: 's', Text: "a", Subst: api.Subst{File: "\n"}}, {Name: 'w', Text: "b", Subst: api.Subst{File: "c"}}, {Name: 'W', Text: " "}, {Name: 'p', Text: "d", Subst: api.Subst{File: "e"}}, {Name: 's'}, {Name: 'r', Text: "f"}, {Name: 'W', Text: "b"}}}
	if got := script.Files(wrong); !slices.Equal(got, []string{"\n", "b", " "}) {
		t.Errorf("Files of a wrong one: %q", got)
	}
	var many []api.Command
	var want []string
	for i := range 50000 {
		name := strings.Repeat("x", i%300) + string(rune('a'+i%7))
		many = append(many, api.Command{Name: 'w', Text: name})
		if !slices.Contains(want, name) {
			want = append(want, name)
		}
	}
	if got := script.Files(api.Script{Commands: many}); !slices.Equal(got, want) {
		t.Error("Files of many:", len(got))
	}
}

// 13.4: nothing that is handed in is changed or kept, nothing that is answered is shared.
func TestMemory(t *testing.T) {
	chance := rand.New(rand.NewSource(8)).Intn
	for range 1000 {
		s := reeds.Grow(chance, chance(6))
		a, b := reeds.Read(t, s, false), reeds.Read(t, s, false)
		want := reeds.Show(b)
		if !reeds.Apart(a) {
			t.Fatalf("lists of %q share memory", s)
		}
		if reeds.Blot(a); reeds.Show(b) != want {
			t.Fatalf("two readings of %q share memory", s)
		}
		roomy := reeds.Roomy(b)
		script.Check(roomy)
		script.Same(roomy, b)
		files := script.Files(roomy)
		for i := range files[:cap(files)] {
			files[:cap(files)][i] = "blot"
		}
		if reeds.Show(roomy) != want || !reeds.Untouched(roomy) || reeds.Show(reeds.Read(t, s, false)) != want {
			t.Fatalf("%q: what was handed in has changed", s)
		}
	}
}

// P1: hand-made scripts of all kinds end every call.
func TestHandMade(t *testing.T) {
	deep := twigs.Nest(60000, twigs.Of("a"), func(_ int, n api.Node) api.Node { return twigs.Repeat(1, 1, n) })
	wide := twigs.Cat(slices.Repeat([]api.Node{twigs.Of("a")}, 100000)...)
	for _, root := range []api.Node{deep, wide, {Kind: 255}} {
		s := api.Script{Commands: []api.Command{{Name: 's', Regex: api.Regex{Text: "a", Root: root}}, {Name: 'p', First: by(api.Regex{Last: true, Root: root})}}}
		if why, at := script.Check(s); why != api.ErrScript || at != 0 {
			t.Error("Check:", why, at)
		}
		if why, at := script.Check(api.Script{Commands: s.Commands[1:]}); why != api.ErrScript || at != 0 {
			t.Error("Check:", why, at)
		}
		if b := script.Copy(s); !script.Same(s, b) || len(script.Files(s)) != 0 {
			t.Error("Copy is not the same")
		}
	}
	for range 2 {
		if why, at := script.Check(api.Script{Quiet: true, Extended: true}); why != api.OK || at != 0 {
			t.Error("no commands:", why, at)
		}
	}
}
