package program_test

import (
	"math/rand"
	"reflect"
	"slices"
	"testing"

	"paddock/api"
	"paddock/program"
	"paddock/reeds"
	"paddock/rushes"
)

// some is a program, right or not.
func some(g *rushes.Grower, chance func(int) int) api.Program {
	p := g.Grow(chance(6))
	for range chance(3) {
		g.Spoil(&p)
	}
	return p
}

// 15.4: Same by its words.
func TestSame(t *testing.T) {
	chance := rand.New(rand.NewSource(5)).Intn
	g := rushes.NewGrower(t, chance)
	for range 8000 {
		a := some(g, chance)
		b := rushes.Clone(a)
		for i := range b.Steps {
			b.Steps[i].Command.At += chance(3) - 1
		}
		if !program.Same(a, b) || !program.Same(b, a) {
			t.Fatalf("not the same: %s", rushes.Show(a))
		}
		g.Spoil(&b)
		if want := rushes.Same(a, b); program.Same(a, b) != want || program.Same(b, a) != want {
			t.Fatalf("Same is not %v:\n%s\n%s", want, rushes.Show(a), rushes.Show(b))
		}
	}
	a := rushes.Read(t, "w f\np", false)
	for i, b := range []api.Program{{}, {Steps: a.Steps[:1], Files: a.Files}, {Steps: a.Steps, Files: a.Files, Quiet: true}, {Steps: a.Steps}, {Steps: a.Steps, Files: []string{"f", "f"}}, {Steps: a.Steps, Files: []string{"F"}}, {Files: a.Files}} {
		if program.Same(a, b) || program.Same(b, a) {
			t.Errorf("the program %d is not told apart", i)
		}
	}
	if !program.Same(api.Program{}, api.Program{Steps: []api.Step{}, Files: []string{}}) {
		t.Error("nil and empty lists are not alike")
	}
}

// full is a program with something in each list.
func full(t *testing.T) api.Program {
	return rushes.Read(t, "/\\(a\\)/I,/\\(b\\)*/!s/\\(c\\)x/t\\1/2w f\n2~3{p\n}", false)
}

// leaves calls do with what sets each number, text and bool of a value anew; at: how it is come to.
func leaves(at string, v reflect.Value, do func(at string, change func())) {
	switch v.Kind() {
	case reflect.Struct:
		for i := range v.NumField() {
			leaves(at+"."+v.Type().Field(i).Name, v.Field(i), do)
		}
	case reflect.Slice, reflect.Array:
		for i := range v.Len() {
			leaves(at+"[]", v.Index(i), do)
		}
	case reflect.String:
		do(at, func() { v.SetString(v.String() + "x") })
	case reflect.Bool:
		do(at, func() { v.SetBool(!v.Bool()) })
	case reflect.Int:
		do(at, func() { v.SetInt(v.Int() + 1) })
	default:
		do(at, func() { v.SetUint(v.Uint() + 1) })
	}
}

// 15.4: a change in any field but At is seen.
func TestSameFields(t *testing.T) {
	a := full(t)
	b := rushes.Clone(a)
	seen := 0
	leaves("", reflect.ValueOf(&b).Elem(), func(at string, change func()) {
		kept := rushes.Clone(b)
		change()
		want := at == ".Steps[].Command.At"
		if program.Same(a, b) != want || program.Same(b, a) != want {
			t.Errorf("a change of %s: Same is %v", at, !want)
		}
		seen++
		undo(&b, kept)
	})
	if seen < 200 {
		t.Error("changes:", seen)
	}
}

// undo writes a program over another one that is as great, in its memory.
func undo(p *api.Program, from api.Program) {
	p.Quiet = from.Quiet
	copy(p.Files, from.Files)
	for i := range p.Steps {
		a, b := &p.Steps[i], &from.Steps[i]
		lists := [][2]*api.Regex{{&a.Command.First.Regex, &b.Command.First.Regex}, {&a.Command.Second.Regex, &b.Command.Second.Regex}, {&a.Command.Regex, &b.Command.Regex}}
		for _, l := range lists {
			undoNode(&l[0].Root, &l[1].Root)
			l[1].Root = l[0].Root
		}
		copy(a.Command.Subst.Pieces, b.Command.Subst.Pieces)
		b.Command.Subst.Pieces = a.Command.Subst.Pieces
		*a = *b
	}
}

func undoNode(a, b *api.Node) {
	for i := range a.Kids {
		undoNode(&a.Kids[i], &b.Kids[i])
	}
	b.Kids = a.Kids
	*a = *b
}

// 15.4, 15.6: Copy, with its places, in memory of its own.
func TestCopy(t *testing.T) {
	chance := rand.New(rand.NewSource(6)).Intn
	g := rushes.NewGrower(t, chance)
	for i := range 4000 {
		p := some(g, chance)
		if i == 0 {
			p = full(t)
		}
		a := rushes.Roomy(p)
		want, places := rushes.Show(a), rushes.Places(a)
		b := program.Copy(a)
		if rushes.Show(b) != want || !slices.Equal(rushes.Places(b), places) || !program.Same(a, b) || !rushes.Apart(b) {
			t.Fatalf("Copy of %s is %s", want, rushes.Show(b))
		}
		c := program.Copy(b)
		rushes.Blot(b)
		if rushes.Show(a) != want || rushes.Show(c) != want || !rushes.Untouched(a) {
			t.Fatal("the copy has memory of what was copied")
		}
		rushes.Blot(a)
		if rushes.Show(c) != want {
			t.Fatal("what was copied has memory of the copy")
		}
	}
}

// 15.6: nothing that is handed in is changed or kept, nothing that is answered is shared.
func TestMemory(t *testing.T) {
	chance := rand.New(rand.NewSource(7)).Intn
	g := rushes.NewGrower(t, chance)
	for range 1500 {
		s := reeds.Roomy(reeds.Read(t, reeds.Grow(chance, chance(7)), false))
		shown := reeds.Show(s)
		p, _, _ := program.Make(s)
		q, _, _ := program.Make(s)
		want := rushes.Show(p)
		if !rushes.Apart(p) {
			t.Fatal("Make: lists of one answer share memory")
		}
		rushes.Blot(q)
		if rushes.Show(p) != want || reeds.Show(s) != shown || !reeds.Untouched(s) {
			t.Fatal("Make: memory is shared")
		}
		reeds.Blot(s)
		if rushes.Show(p) != want {
			t.Fatal("Make: what was handed in is kept")
		}
	}
	for range 1500 {
		p := rushes.Roomy(some(g, chance))
		want := rushes.Show(p)
		program.Check(p, false)
		program.Same(p, p)
		for i := range p.Steps {
			l, again := program.Flow(p, i), program.Flow(p, i)
			kept := slices.Clone(again)
			for k := range l[:cap(l)] {
				l[:cap(l)][k] = 77
			}
			if !slices.Equal(again, kept) || !slices.Equal(program.Flow(p, i), kept) {
				t.Fatal("Flow: memory is shared")
			}
		}
		a, why := program.Back(p, false)
		b, _ := program.Back(p, false)
		shown := reeds.Show(b)
		if !reeds.Apart(a) {
			t.Fatal("Back: lists of one answer share memory")
		}
		reeds.Blot(a)
		if reeds.Show(b) != shown || rushes.Show(p) != want || !rushes.Untouched(p) {
			t.Fatal("memory is shared:", why)
		}
		rushes.Blot(p)
		if reeds.Show(b) != shown {
			t.Fatal("Back: what was handed in is kept")
		}
	}
}
