package twigs

import (
	"slices"

	"paddock/api"
	"paddock/syntax"
)

// Test is what a test is to these functions.
type Test interface {
	Helper()
	Fatalf(form string, told ...any)
}

// ERE is the tree of an extended expression.
func ERE(t Test, s string) api.Node {
	t.Helper()
	n, why, at := syntax.Parse(s, true)
	if why != api.OK {
		t.Fatalf("%q: error %d at %d", s, why, at)
	}
	return n
}

// Texts are all of up to so many letters, shorter ones first.
func Texts(letters string, most int) []string {
	out := []string{""}
	for i := 0; i < len(out); i++ {
		for k := 0; len(out[i]) < most && k < len(letters); k++ {
			out = append(out, out[i]+letters[k:k+1])
		}
	}
	return out
}

// Sized is an expression whose program has so many instructions, nearly all of them in rounds.
func Sized(size int) api.Node {
	rounds := (size - 1) / api.MaxRepeat
	empty := Leaf(api.NodeEmpty)
	kids := slices.Repeat([]api.Node{Of("a")}, size-1-api.MaxRepeat*rounds)
	all := append(slices.Repeat([]api.Node{Of("b")}, rounds), empty, empty)
	return Cat(append(kids, empty, Repeat(api.MaxRepeat, api.MaxRepeat, Cat(all...)))...)
}
