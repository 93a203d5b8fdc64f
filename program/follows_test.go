package program_test

import (
	"math/rand"
	"slices"
	"strings"
	"testing"

	"paddock/api"
	"paddock/program"
	"paddock/reeds"
	"paddock/rushes"
	"paddock/script"
)

// 15.7, 15.8: there and back, for programs; their blocks are nested.
func TestThereAndBack(t *testing.T) {
	chance := rand.New(rand.NewSource(8)).Intn
	g := rushes.NewGrower(t, chance)
	for i := range 4000 {
		extended := i%2 == 0
		p := g.Grow(chance(14))
		s, why := program.Back(p, extended)
		if why != api.OK {
			t.Fatalf("error %d: %s", why, rushes.Show(p))
		}
		if why, at := script.Check(s); why != api.OK {
			t.Fatalf("Back has error %d at %d: %s", why, at, reeds.Show(s))
		}
		q, why, _ := program.Make(s)
		if why != api.OK || !program.Same(p, q) || !rushes.Same(p, q) || !slices.Equal(rushes.Places(p), rushes.Places(q)) {
			t.Fatalf("Make of Back is %s, not %s", rushes.Show(q), rushes.Show(p))
		}
		for a, x := range p.Steps {
			for b, y := range p.Steps[a+1:] {
				b += a + 1
				if x.Command.Name == '{' && y.Command.Name == '{' && y.To > x.To && b < x.To {
					t.Fatalf("blocks %d and %d are not nested: %s", a, b, rushes.Show(p))
				}
			}
		}
	}
}

// 15.7: and for scripts, also behind another way there and back.
func TestScriptsThereAndBack(t *testing.T) {
	chance := rand.New(rand.NewSource(9)).Intn
	for i := range 4000 {
		extended := i%2 == 0
		p := rushes.Read(t, reeds.Grow(chance, chance(10)), extended)
		s, why := program.Back(p, extended)
		q, no, _ := program.Make(s)
		if why != api.OK || no != api.OK || !rushes.Same(p, q) {
			t.Fatalf("errors %d, %d: %s, not %s", why, no, rushes.Show(q), rushes.Show(p))
		}
		again, why := program.Back(q, extended)
		if why != api.OK || !reeds.Same(s, again) || s.Extended != extended {
			t.Fatalf("error %d: %s, not %s", why, reeds.Show(again), reeds.Show(s))
		}
	}
}

// 15.9: what labels are called, and labels to which nothing leads, do not matter.
func TestLabels(t *testing.T) {
	chance := rand.New(rand.NewSource(10)).Intn
	for range 3000 {
		s := reeds.Read(t, reeds.Grow(chance, chance(10)), false)
		want, _, _ := program.Make(s)
		other := reeds.Clone(s)
		for i := range other.Commands {
			c := &other.Commands[i]
			if c.Text != "" && (c.Name == ':' || isJump(*c)) {
				c.Text = strings.Repeat("y", len(c.Text)) + c.Text
			}
		}
		for range chance(4) {
			at := chance(len(other.Commands) + 1)
			other.Commands = slices.Insert(other.Commands, at, api.Command{Name: ':', Text: "l" + strings.Repeat("1", len(other.Commands)%50)})
		}
		got, why, _ := program.Make(other)
		if twice, _ := script.Check(other); twice != api.OK {
			continue
		}
		if why != api.OK || !program.Same(got, want) || !rushes.Same(got, want) {
			t.Fatalf("error %d: %s, not %s", why, rushes.Show(got), rushes.Show(want))
		}
	}
}
