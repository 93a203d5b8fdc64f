package nfa_test

import (
	"math/rand"
	"slices"
	"testing"

	"paddock/api"
	"paddock/nfa"
	"paddock/posix"
	"paddock/twigs"
)

// checkProgram holds Size and Compile against the words.
func checkProgram(t *testing.T, n api.Node) {
	t.Helper()
	want := programOf(n)
	got, why := nfa.Compile(n)
	if why != api.OK || !samePrograms(got, want) {
		t.Fatalf("Compile(%s) = %v, %d; not %v", show(n), got, why, want)
	}
	if size, why := nfa.Size(n); why != api.OK || size != len(got.Code) {
		t.Fatalf("P10.6: Size(%s) = %d, %d; not %d", show(n), size, why, len(got.Code))
	}
	if !nfa.Right(got) || !isRight(got) {
		t.Fatalf("P10.6: Compile(%s) = %v is not right", show(n), got)
	}
}

// P10.1: the chapter's examples.
func TestExamples(t *testing.T) {
	a, b := of("a").Set, of("b").Set
	for e, want := range map[string]api.Prog{
		"a":      {Code: []api.Inst{{Kind: instSet, Set: a}, {Kind: instMatch}}},
		"":       {Code: []api.Inst{{Kind: instMatch}}},
		"a|b":    {Code: []api.Inst{{Kind: instSplit, To: 3}, {Kind: instSet, Set: a}, {Kind: api.InstJump, To: 4}, {Kind: instSet, Set: b}, {Kind: instMatch}}},
		"(a)*":   {Groups: 1, Slots: 1, Code: []api.Inst{{Kind: instSplit, To: 8}, {Kind: api.InstMark}, {Kind: api.InstClear, Group: 1, Last: 1}, {Kind: api.InstOpen, Group: 1}, {Kind: instSet, Set: a}, {Kind: api.InstClose, Group: 1}, {Kind: api.InstMoved}, {Kind: api.InstJump}, {Kind: instMatch}}},
		"a{1,2}": {Slots: 1, Code: []api.Inst{{Kind: instSet, Set: a}, {Kind: instSplit, To: 5}, {Kind: api.InstMark}, {Kind: instSet, Set: a}, {Kind: api.InstMoved}, {Kind: instMatch}}},
		"^a$":    {Code: []api.Inst{{Kind: api.InstBegin}, {Kind: instSet, Set: a}, {Kind: api.InstEnd}, {Kind: instMatch}}},
		"(a)\\1": {Groups: 1, Code: []api.Inst{{Kind: api.InstOpen, Group: 1}, {Kind: instSet, Set: a}, {Kind: api.InstClose, Group: 1}, {Kind: api.InstBack, Group: 1}, {Kind: instMatch}}},
		"(a){0}": {Groups: 1, Code: []api.Inst{{Kind: instMatch}}},
	} {
		n := ere(t, e)
		if got, why := nfa.Compile(n); why != api.OK || !samePrograms(got, want) {
			t.Errorf("Compile(%s) = %v, %d", e, got, why)
		}
		checkProgram(t, n)
	}
}

// P10.1: slots by the free rounds around, of which those that must be are none.
func TestSlots(t *testing.T) {
	for e, want := range map[string]int{"a": 0, "a{3}": 0, "a*": 1, "(a*)*": 2, "(a*){2}": 1, "(a*)+": 2, "((a?)?)?": 3, "(a*b*)c*": 1, "((a*){2,3})": 2, "(a*){0}": 0, "((a*){0})*": 1, "(((a{2}){0,1}){3})*": 2} {
		if p, why := nfa.Compile(ere(t, e)); why != api.OK || p.Slots != want {
			t.Errorf("%s has %d slots, error %d", e, p.Slots, why)
		}
		checkProgram(t, ere(t, e))
	}
}

// P10.1, P10.6: all small expressions, and grown ones.
func TestCompile(t *testing.T) {
	leaves := []api.Node{of("a"), empty, begin, back(1)}
	bounds := [][2]int{{0, -1}, {2, -1}, {0, 0}, {2, 2}, {0, 2}, {1, 3}}
	for size := 1; size <= 5; size++ {
		for i, n := range twigs.Trees(size, leaves, bounds) {
			if size < 5 || i%5 == 0 {
				checkProgram(t, n)
			}
		}
	}
	chance := rand.New(rand.NewSource(101))
	for i := range 10000 {
		if n := grow(chance.Intn, 1+i%30, i%2 == 0); len(code(n, 0)) < api.MaxProg {
			checkProgram(t, n)
		}
	}
}

// P10.1: MaxProg at it, and one past it; which error comes first.
func TestLimits(t *testing.T) {
	checkProgram(t, sized(api.MaxProg-1))
	checkProgram(t, sized(api.MaxProg))
	star := func(_ int, n api.Node) api.Node { return repeat(0, -1, n) }
	full := func(_ int, n api.Node) api.Node { return repeat(255, 255, n) }
	wide := cat(slices.Repeat([]api.Node{of("a")}, api.MaxNodes-1)...)
	for i, c := range []struct {
		n    api.Node
		want api.Errno
	}{
		{sized(api.MaxProg + 1), api.ErrMany}, {sized(2 * api.MaxProg), api.ErrMany}, {nest(4095, of("a"), star), api.OK}, {nest(4096, of("a"), star), api.ErrMany}, {nest(8000, of("a"), full), api.ErrMany}, {ere(t, "(a{255}){255}"), api.ErrMany}, {cat(nest(10, of("a"), full), repeat(0, 0, of("a"))), api.ErrMany}, {wide, api.OK}, {cat(slices.Repeat([]api.Node{of("a")}, api.MaxNodes)...), api.ErrMany}, {repeat(2, 2, wide), api.ErrMany}, {repeat(2, 2, cat(slices.Repeat([]api.Node{of("a")}, api.MaxNodes-2)...)), api.OK},
		{repeat(0, 0, nest(8000, of("a"), full)), api.OK}, {nest(8000, empty, full), api.OK}, {nest(8000, repeat(0, 0, group(1, of("a"))), full), api.ErrMany}, {nest(2, repeat(0, 0, group(1, of("a"))), full), api.ErrMany}, {repeat(255, 255, cat(slices.Repeat([]api.Node{empty}, 8000)...)), api.OK}, {nest(60, repeat(0, 255, empty), star), api.OK},
		{back(1), api.ErrNode}, {cat(sized(api.MaxProg+1), api.Node{}), api.ErrNode}, {api.Node{}, api.ErrNode}, {repeat(3, 2, of("a")), api.ErrNode},
	} {
		p, why := nfa.Compile(c.n)
		size, no := nfa.Size(c.n)
		if why != c.want || no != c.want || posix.Check(c.n) != api.OK && posix.Check(c.n) != why {
			t.Errorf("%d: %d, %d, not %d", i, why, no, c.want)
		}
		if why != api.OK && (p.Code != nil || p.Groups != 0 || p.Slots != 0 || size != 0) {
			t.Errorf("%d: %d instructions, size %d beside an error", i, len(p.Code), size)
		}
		if why == api.OK && (size != len(p.Code) || !nfa.Right(p)) {
			t.Errorf("%d: size %d, %d instructions", i, size, len(p.Code))
		}
	}
}

// P10.2: each kind, each field, and the limits, at them and one past them.
func TestRight(t *testing.T) {
	match := api.Inst{Kind: instMatch}
	kinds := []api.Inst{{Kind: instSet, Set: api.Set{1, 2, 3, 4}}, {Kind: instSet}, {Kind: instSplit, To: 2}, {Kind: api.InstJump}, {Kind: api.InstOpen, Group: 2}, {Kind: api.InstClose, Group: 1}, {Kind: api.InstClear, Group: 1, Last: 2}, {Kind: api.InstClear, Group: 2, Last: 2}, {Kind: api.InstMark, Slot: 1}, {Kind: api.InstMoved}, {Kind: api.InstBack, Group: 2}, {Kind: api.InstBegin}, {Kind: api.InstEnd}}
	changes := []func(x *api.Inst, by int){
		func(x *api.Inst, by int) { x.Set[by&3]++ }, func(x *api.Inst, by int) { x.To += by }, func(x *api.Inst, by int) { x.Group += by }, func(x *api.Inst, by int) { x.Last += by }, func(x *api.Inst, by int) { x.Slot += by }, func(x *api.Inst, by int) { x.Kind += api.InstKind(by) },
	}
	for _, x := range kinds {
		right := api.Prog{Groups: 2, Slots: 2, Code: []api.Inst{x, x, match}}
		if !nfa.Right(right) {
			t.Errorf("%v is right", right)
		}
		for i, change := range changes {
			for _, by := range []int{-3, -2, -1, 1, 2, 3, 1 << 62, -1 << 62} {
				p := right
				p.Code = slices.Clone(right.Code)
				change(&p.Code[1], by)
				if nfa.Right(p) != isRight(p) {
					t.Errorf("change %d by %d: Right(%v) = %v", i, by, p, nfa.Right(p))
				}
			}
		}
	}
	set := api.Inst{Kind: instSet}
	long := func(n int) []api.Inst { return append(slices.Repeat([]api.Inst{set}, n-1), match) }
	for i, c := range []struct {
		p    api.Prog
		want bool
	}{
		{api.Prog{}, false}, {api.Prog{Code: []api.Inst{match}}, true}, {api.Prog{Code: []api.Inst{set}}, false}, {api.Prog{Code: []api.Inst{match, match}}, false}, {api.Prog{Code: []api.Inst{match, set}}, false}, {api.Prog{Code: []api.Inst{set, match}}, true}, {api.Prog{Code: []api.Inst{{}, match}}, false}, {api.Prog{Code: []api.Inst{{Kind: api.InstCount}, match}}, false}, {api.Prog{Code: []api.Inst{{Kind: 255}, match}}, false},
		{api.Prog{Groups: 99, Code: []api.Inst{match}}, true}, {api.Prog{Groups: 100, Code: []api.Inst{match}}, false}, {api.Prog{Groups: -1, Code: []api.Inst{match}}, false}, {api.Prog{Slots: api.MaxProg, Code: []api.Inst{match}}, true}, {api.Prog{Slots: api.MaxProg + 1, Code: []api.Inst{match}}, false}, {api.Prog{Slots: -1, Code: []api.Inst{match}}, false},
		{api.Prog{Code: long(api.MaxProg)}, true}, {api.Prog{Code: long(api.MaxProg + 1)}, false}, {api.Prog{Code: []api.Inst{{Kind: instMatch, To: 1}}}, false}, {api.Prog{Code: []api.Inst{{Kind: instSplit, To: 1}, match}}, true}, {api.Prog{Code: []api.Inst{{Kind: instSplit, To: 2}, match}}, false}, {api.Prog{Code: []api.Inst{{Kind: api.InstMark}, match}}, false}, {api.Prog{Code: []api.Inst{{Kind: api.InstOpen, Group: 1}, match}}, false},
	} {
		if nfa.Right(c.p) != c.want || isRight(c.p) != c.want {
			t.Errorf("%d: Right = %v", i, nfa.Right(c.p))
		}
	}
}

// P10.4: answers are new memory, and what is handed in stays.
func TestNewMemory(t *testing.T) {
	chance := rand.New(rand.NewSource(104))
	for i := range 1000 {
		n := grow(chance.Intn, 2+i%14, false)
		given := twigs.Roomy(n)
		p, _ := nfa.Compile(given)
		nfa.Size(given)
		if !twigs.Same(given, n) || !twigs.Untouched(given) {
			t.Fatalf("%s was changed", show(n))
		}
		twigs.Blot(given)
		if !samePrograms(p, programOf(n)) {
			t.Fatalf("Compile(%s) shares memory with it", show(n))
		}
		mark := api.Inst{Kind: 77}
		roomy := api.Prog{Groups: p.Groups, Slots: p.Slots, Code: append(slices.Clone(p.Code), mark, mark)[:len(p.Code)]}
		s := text(chance.Intn, "ab", 8)
		l, _ := nfa.Ends(roomy, s, 0)
		nfa.Whole(roomy, s, api.Span{From: 0, To: len(s)})
		nfa.Match(roomy, s, 0)
		if spare := roomy.Code[len(p.Code) : len(p.Code)+2]; !samePrograms(roomy, p) || spare[0] != mark || spare[1] != mark {
			t.Fatalf("the program of %s was changed", show(n))
		}
		for i := range l[:cap(l)] {
			l[:cap(l)][i] = 99
		}
		code := p.Code[:cap(p.Code)]
		for i := range code {
			code[i] = mark
		}
		if again, why := nfa.Compile(n); why != api.OK || !samePrograms(again, programOf(n)) {
			t.Fatalf("Compile(%s) shares memory with an earlier answer", show(n))
		}
		if l, why := nfa.Ends(programOf(n), s, 0); why != api.OK || !slices.Equal(l, endsOf(programOf(n), s, 0)) {
			t.Fatalf("Ends of %s share memory with an earlier answer: %v", show(n), l)
		}
	}
}
