package deriv_test

import (
	"math/rand"
	"slices"
	"testing"

	"paddock/api"
	"paddock/deriv"
	"paddock/twigs"
)

// knownLetters is how long texts are of which it is asked whether they are matched.
const knownLetters = 6

// P12.6, P12.7, P12.8: what is told of two grown expressions holds for each text that is not too long.
func TestFollows(t *testing.T) {
	chance := rand.New(rand.NewSource(126))
	all := texts("ab", knownLetters)
	for i := range 1500 {
		a, b := grow(chance.Intn, 2+i%16), grow(chance.Intn, 2+i%11)
		inA, inB := make([]bool, len(all)), make([]bool, len(all))
		for k, s := range all {
			inA[k], inB[k] = accepts(t, a, s), accepts(t, b, s)
		}
		for name, x := range suches() {
			s, ok, why := x.ask(a, b)
			if why != api.OK {
				t.Fatal(name, show(a), show(b), why)
			}
			if ok && !x.such(accepts(t, a, s), accepts(t, b, s)) {
				t.Fatalf("%s(%s, %s) tells %q", name, show(a), show(b), s)
			}
			for k, u := range all {
				if x.such(inA[k], inB[k]) && (!ok || ahead(u, s)) {
					t.Fatalf("%s(%s, %s) tells %q, %v; %q stands ahead", name, show(a), show(b), s, ok, u)
				}
			}
		}
		checkExtent(t, a, all, inA)
	}
}

// checkExtent holds Shortest, Lengths and First against which texts are matched.
func checkExtent(t *testing.T, n api.Node, all []string, in []bool) {
	t.Helper()
	shortest, some, _ := deriv.Shortest(n)
	least, most, ok, _ := deriv.Lengths(n)
	first, _ := deriv.First(n)
	if some != ok || some && (!accepts(t, n, shortest) || len(shortest) != least) {
		t.Fatalf("P12.7: %s: %q, %v; %d", show(n), shortest, some, least)
	}
	var begun string
	longest := 0
	for k, s := range all {
		if !in[k] {
			continue
		}
		longest = len(s)
		if ahead(s, shortest) {
			t.Fatalf("P12.7: %s: %q, but %q is matched", show(n), shortest, s)
		}
		if !ok || len(s) < least || most != -1 && len(s) > most {
			t.Fatalf("P12.8: %s matches %q, lengths %d to %d, %v", show(n), s, least, most, ok)
		}
		if begun += s[:min(1, len(s))]; s != "" && !has(int(s[0]))(first) {
			t.Fatalf("P12.8: %s matches %q, which is not of %v", show(n), s, first)
		}
	}
	if most != -1 && most <= knownLetters && (longest != most || of(begun).Set != first) {
		t.Fatalf("P12.4: %s matches no text of %d bytes, or with a first byte of %v", show(n), most, first)
	}
}

// equal tells whether two expressions with numbers for their groups yet to come are Equal.
func equal(t *testing.T, a, b api.Node) bool {
	t.Helper()
	a, _ = numbered(a)
	b, _ = numbered(b)
	ok, s, why := deriv.Equal(a, b)
	if why != api.OK || ok && s != "" {
		t.Fatalf("Equal(%s, %s) = %v, %q, %d", show(a), show(b), ok, s, why)
	}
	return ok
}

// P12.9: laws.
func TestLaws(t *testing.T) {
	chance := rand.New(rand.NewSource(129))
	star := func(n api.Node) api.Node { return repeat(0, -1, n) }
	for i := range 800 {
		a, b, c := grow(chance.Intn, 1+i%9), grow(chance.Intn, 1+i%7), grow(chance.Intn, 1+i%5)
		for name, law := range map[string][2]api.Node{
			"a|b and b|a": {alt(a, b), alt(b, a)}, "(a|b)c and ac|bc": {cat(alt(a, b), c), alt(cat(a, c), cat(b, c))}, "(a*)* and a*": {star(star(a)), star(a)}, "aa* and a+": {cat(a, star(a)), repeat(1, -1, a)}, "itself in a group": {a, group(1, a)}, "itself": {a, a}, "a|a and a": {alt(a, a), a}, "a and nothing ahead": {cat(empty, a), a}, "a{2} and aa": {repeat(2, 2, a), cat(a, a)},
		} {
			if !equal(t, law[0], law[1]) {
				t.Fatalf("P12.9: %s: %s, %s", name, show(law[0]), show(law[1]))
			}
		}
	}
}

// P12.9: Within is an order.
func TestOrder(t *testing.T) {
	chance := rand.New(rand.NewSource(130))
	within := func(a, b api.Node) bool {
		ok, _, why := deriv.Within(a, b)
		if why != api.OK {
			t.Fatal(show(a), show(b), why)
		}
		return ok
	}
	through, both := 0, 0
	var some []api.Node
	for i := range 70 {
		some = append(some, grow(chance.Intn, 1+i%7))
	}
	for _, a := range some {
		for _, b := range some {
			if !within(a, b) {
				continue
			}
			if back := within(b, a); back != equal(t, a, b) {
				t.Fatalf("P12.9: %s and %s: within both ways is %v", show(a), show(b), back)
			} else if back {
				both++
			}
			for _, c := range some[:30] {
				if within(b, c) {
					if through++; !within(a, c) {
						t.Fatalf("P12.9: %s, %s, %s", show(a), show(b), show(c))
					}
				}
			}
		}
	}
	if through < 1000 || both < 100 {
		t.Error("only a few:", through, both)
	}
}

// P12.5: what is handed in stays as it is.
func TestNewMemory(t *testing.T) {
	chance := rand.New(rand.NewSource(125))
	for i := range 600 {
		a, b := grow(chance.Intn, 2+i%14), grow(chance.Intn, 2+i%10)
		given, other := twigs.Roomy(a), twigs.Roomy(b)
		deriv.Accepts(given, "ab")
		_, told, _ := deriv.Equal(given, other)
		deriv.Within(given, other)
		deriv.Common(given, other)
		deriv.Shortest(given)
		deriv.Lengths(given)
		deriv.First(given)
		if !twigs.Same(a, given) || !twigs.Same(b, other) || !twigs.Untouched(given) || !twigs.Untouched(other) {
			t.Fatalf("%s or %s was changed", show(a), show(b))
		}
		twigs.Blot(given)
		twigs.Blot(other)
		if _, again, _ := deriv.Equal(a, b); again != told {
			t.Fatalf("Equal(%s, %s) tells %q, then %q", show(a), show(b), told, again)
		}
	}
}

// P1: great and deep expressions, many letters.
func TestGreat(t *testing.T) {
	star := func(_ int, n api.Node) api.Node { return repeat(0, -1, n) }
	deep := nest(4000, of("a"), star)
	if ok, s, why := deriv.Equal(deep, repeat(0, -1, of("a"))); !ok || s != "" || why != api.OK {
		t.Error("a deep one:", ok, s, why)
	}
	if least, most, ok, why := deriv.Lengths(deep); least != 0 || most != -1 || !ok || why != api.OK {
		t.Error("its lengths:", least, most, ok, why)
	}
	maybe := repeat(16, 16, repeat(0, 240, of("a")))
	if ok, s, why := deriv.Equal(maybe, maybe); !ok || s != "" || why != api.OK {
		t.Error("many that may be left out:", ok, s, why)
	}
	var kids []api.Node
	for c := range 256 {
		letter := of(string([]byte{byte(c)}))
		kids = append(kids, cat(letter, repeat(0, -1, twigs.Any()), letter))
	}
	row := alt(slices.Clone(kids)...)
	slices.Reverse(kids)
	if ok, s, why := deriv.Equal(row, alt(slices.Clone(kids)...)); !ok || s != "" || why != api.OK {
		t.Error("the same letter first and last:", ok, s, why)
	}
	if ok, s, why := deriv.Equal(row, alt(kids[1:]...)); ok || s != "\xff\xff" || why != api.OK {
		t.Errorf("but the last one: %v, %q, %d", ok, s, why)
	}
}
