package script_test

import (
	"math/rand"
	"strings"
	"testing"

	"paddock/api"
	"paddock/reeds"
	"paddock/script"
)

// grown is the text of a right script that does not end with a backslash and is not quiet; many of them have been changed here and there.
func grown(chance func(int) int) (string, api.Script) {
	for {
		s := reeds.Grow(chance, chance(5))
		if chance(3) > 0 {
			s = reeds.SpoilText(chance, s)
		}
		read, why, _ := script.Parse(s, false)
		if why == api.OK && !strings.HasSuffix(s, "\\") && !strings.HasPrefix(s, "#n") {
			return s, read
		}
	}
}

// 13.6: what stands between commands does not matter.
func TestFurther(t *testing.T) {
	chance := rand.New(rand.NewSource(3)).Intn
	further := []string{" ", "\t", "\n", ";", "# x;{\n", "#\n", " ;\n\t#\\\n ;"}
	for range 4000 {
		s, want := grown(chance)
		o := &told{rest: reeds.Wide(s)}
		o.all()
		for _, at := range append(o.begins, len(s)) {
			more := further[chance(len(further))]
			if at == len(s) {
				more = "\n" + more // what a command takes up to the end may go on with it
			}
			if at > 0 && more[0] == '#' && strings.IndexByte("\n;{", s[at-1]) < 0 {
				more = ";" + more // right behind t a # would begin a label
			}
			text := s[:at] + more + s[at:]
			got, why, flaw := script.Parse(text, false)
			if why != api.OK || !reeds.Same(got, want) || !script.Same(got, want) {
				t.Fatalf("%q is not read as %q: error %d, %v", text, s, why, flaw)
			}
		}
	}
}

// 13.7: two scripts one behind another.
func TestBoth(t *testing.T) {
	chance := rand.New(rand.NewSource(4)).Intn
	for range 8000 {
		a, first := grown(chance)
		b, second := grown(chance)
		labels := map[string]int{}
		for _, c := range append(reeds.Clone(first).Commands, second.Commands...) {
			if c.Name == ':' {
				labels[c.Text]++
			}
		}
		again := false
		for _, n := range labels {
			again = again || n > 1
		}
		got, why, flaw := script.Parse(a+"\n"+b, false)
		if again {
			if why != api.ErrScript || flaw.Rule != api.RuleTwice {
				t.Fatalf("%q and %q: error %d, %v", a, b, why, flaw)
			}
			continue
		}
		first.Commands = append(first.Commands, second.Commands...)
		if why != api.OK || !reeds.Same(got, first) {
			t.Fatalf("%q and %q: error %d, %v", a, b, why, flaw)
		}
	}
}
