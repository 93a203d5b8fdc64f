package script_test

import (
	"math/rand"
	"slices"
	"strings"
	"testing"

	"paddock/api"
	"paddock/reeds"
	"paddock/script"
)

// agree tells whether Parse says of a text what the second reading says; whether it is right.
func agree(t *testing.T, s string, extended bool) bool {
	t.Helper()
	want, flaw := reading(s, extended)
	got, why, f := script.Parse(s, extended)
	if flaw != (api.Flaw{}) {
		if why != api.ErrScript || f != flaw || !reeds.Same(got, api.Script{}) {
			t.Fatalf("Parse(%q, %v): error %d, %v; not %v", s, extended, why, f, flaw)
		}
		return false
	}
	if why != api.OK || f != flaw || !reeds.Same(got, want) || !slices.Equal(reeds.Places(got), reeds.Places(want)) {
		t.Fatalf("Parse(%q, %v): error %d, %v;\n%s\nnot\n%s", s, extended, why, f, reeds.Show(got), reeds.Show(want))
	}
	// 13.5
	if why, at := script.Check(got); why != api.OK || at != 0 {
		t.Fatalf("Check of %q: error %d at %d", s, why, at)
	}
	return true
}

// 13.1, 13.5: scripts that are right.
func TestGrown(t *testing.T) {
	chance := rand.New(rand.NewSource(1)).Intn
	for i := range 8000 {
		s := reeds.Grow(chance, chance(8))
		if !agree(t, s, i%2 == 0) {
			t.Fatalf("%q has a flaw", s)
		}
	}
}

// 13.1: and such as have a flaw, mostly.
func TestSpoilt(t *testing.T) {
	chance := rand.New(rand.NewSource(2)).Intn
	rules := map[int]int{}
	for i := range 25000 {
		s := reeds.SpoilText(chance, reeds.Grow(chance, chance(5)))
		agree(t, s, i%2 == 0)
		_, flaw := reading(s, i%2 == 0)
		rules[flaw.Rule]++
	}
	for rule := range api.RuleNumber + 1 {
		if rules[rule] < 10 && rule != api.RuleTwice {
			t.Errorf("the rule %d was broken %d times", rule, rules[rule])
		}
	}
}

// 13.1: all short texts of some bytes.
func TestShort(t *testing.T) {
	for _, letters := range []string{"1~,$p", "0/I\\,p", "s/\\1gI", "a\\\n x", "{};p!#", ":b ;}x", "y/\\nab", "q2 ;}w", "1+~p,!", "s//w f", "sI/\\&\nU", "#n\n;p"} {
		texts := []string{""}
		for i := 0; i < len(texts); i++ {
			agree(t, texts[i], false)
			for k := 0; len(texts[i]) < 5 && k < len(letters); k++ {
				texts = append(texts, texts[i]+letters[k:k+1])
			}
		}
	}
}

// 13.1: every byte at each place where a thing may stand.
func TestEachByte(t *testing.T) {
	for _, s := range []string{"@", "1@", "1!@", "1,@", "p@", "p @", "}@", "{@", "{p;}@", "\\@a@p", "/a@/p", "/\\@/p", "\\@\\@@p", "s@a@b@", "s@\\@@\\@@", "s/a/@/", "s/a/\\@/", "s/a/b/@", "s/a/b/g@", "y@a@b@", "y/@/a/", "y/\\@/a/", "y@\\@@a@", ":@", ":a@", "b@", "b@;:a", "ba@\n:a", "r@", "w @", "r a@", "e@", "e a@", "a@", "a\\@", "a\\\n@", "a x@", "a x\\@", "a\\ @", "l@", "l1@", "q@", "1~@p", "1@p", "1,~@p", "#@", "#n@"} {
		for b := range 256 {
			for _, extended := range []bool{false, true} {
				agree(t, strings.ReplaceAll(s, "@", string([]byte{byte(b)})), extended)
			}
		}
	}
}
