package pretty_test

import (
	"math/rand"
	"slices"
	"strings"
	"testing"

	"paddock/api"
	"paddock/pretty"
	"paddock/reeds"
	"paddock/script"
)

// some is a right script: one that was read, or one of which fields were changed by hand.
func some(t *testing.T, chance func(int) int) api.Script {
	for {
		s := reeds.Read(t, reeds.Grow(chance, chance(6)), chance(2) == 0)
		for range chance(3) {
			reeds.Spoil(chance, &s)
		}
		if why, _ := script.Check(s); why == api.OK {
			return s
		}
	}
}

// P14.1, P14.2, P14.5, P14.7: what is written is as the words say it, is read as the same script, and has a line for each command.
func TestThereAndBack(t *testing.T) {
	chance := rand.New(rand.NewSource(1)).Intn
	others := 0
	for range 12000 {
		s := some(t, chance)
		got, why := pretty.Print(s)
		want, ok := written(s)
		if !ok || why != api.OK || got != want {
			t.Fatalf("Print is %q, error %d, not %q", got, why, want)
		}
		if strings.Contains(got, "\x00") {
			others++
		}
		back, why, flaw := script.Parse(got, s.Extended)
		if why != api.OK || !script.Same(back, s) || !reeds.Same(back, s) {
			t.Fatalf("%q is read as\n%s\nnot\n%s\nerror %d, %v", got, reeds.Show(back), reeds.Show(s), why, flaw)
		}
		if got != "" && !strings.HasSuffix(got, "\n") || got == "" && len(s.Commands) > 0 {
			t.Fatalf("P14.7: %q", got)
		}
		for i := range s.Commands {
			ahead, _ := written(api.Script{Commands: s.Commands[:i], Quiet: s.Quiet})
			if !strings.HasPrefix(got, ahead) || ahead != "" && !strings.HasSuffix(ahead, "\n") {
				t.Fatalf("P14.7: the command %d of %q begins no line", i, got)
			}
		}
		if again, why, _ := pretty.Format(got, s.Extended); again != got || why != api.OK {
			t.Fatalf("P14.6: Format of %q is %q", got, again)
		}
	}
	if others < 100 {
		t.Error("other delimiters:", others)
	}
}

// P14.6: two scripts are written alike just if they are the same.
func TestOneWay(t *testing.T) {
	chance := rand.New(rand.NewSource(2)).Intn
	alike, unlike := 0, 0
	for range 12000 {
		a := some(t, chance)
		b := reeds.Clone(a)
		switch chance(3) {
		case 0:
			for i := range b.Commands {
				b.Commands[i].At = chance(100)
			}
		default:
			for {
				reeds.Spoil(chance, &b)
				if b.Extended = a.Extended; isRight(b) {
					break
				}
				b = reeds.Clone(a)
			}
		}
		first, _ := pretty.Print(a)
		second, why := pretty.Print(b)
		if why != api.OK || (first == second) != reeds.Same(a, b) {
			t.Fatalf("%q and %q of\n%s\n%s\nerror %d", first, second, reeds.Show(a), reeds.Show(b), why)
		}
		if first == second {
			alike++
		} else {
			unlike++
		}
	}
	if alike < 1000 || unlike < 1000 {
		t.Error("alike:", alike, "unlike:", unlike)
	}
}

func isRight(s api.Script) bool {
	why, _ := script.Check(s)
	return why == api.OK
}

// P14.3: Format is Print of what Parse reads, or what Parse says is wrong.
func TestFormat(t *testing.T) {
	chance := rand.New(rand.NewSource(3)).Intn
	for i := range 10000 {
		s := reeds.SpoilText(chance, reeds.Grow(chance, chance(4)))
		read, why, flaw := script.Parse(s, i%2 == 0)
		want := ""
		if why == api.OK {
			want, why = pretty.Print(read)
		}
		if got, w, f := pretty.Format(s, i%2 == 0); got != want || w != why || f != flaw {
			t.Fatalf("Format(%q) = %q, %d, %v; not %q, %d, %v", s, got, w, f, want, why, flaw)
		}
	}
}

// P14.5: every byte, wherever a script may have it.
func TestEachByte(t *testing.T) {
	for b := range 256 {
		c := string([]byte{byte(b)})
		for _, commands := range [][]api.Command{
			{{Name: 'a', Text: c + "\n"}}, {{Name: 'a', Text: "x" + c + "\n"}}, {{Name: 'a', Text: c + c + "x\n"}}, {{Name: ':', Text: c}}, {{Name: ':', Text: "x" + c + "x"}, {Name: 'b', Text: "x" + c + "x"}}, {{Name: 'w', Text: c}}, {{Name: 'w', Text: "x" + c}}, {{Name: 'e', Text: "x" + c}}, {{Name: 'y', Text: c, Other: "x"}}, {{Name: 'y', Text: "x", Other: c}},
			{{Name: 's', Regex: api.Regex{Last: true}, Subst: api.Subst{Pieces: []api.Piece{{Kind: api.PieceText, Text: c + "x" + c}}}}}, {{Name: 's', Regex: api.Regex{Last: true}, Subst: api.Subst{Pieces: []api.Piece{{Kind: api.PieceEnd}, {Kind: api.PieceText, Text: c}, {Kind: api.PieceGroup, N: 1}, {Kind: api.PieceText, Text: c}}, File: "x" + c}}},
		} {
			s := api.Script{Commands: commands}
			if !isRight(s) {
				continue
			}
			got, why := pretty.Print(s)
			back, read, flaw := script.Parse(got, false)
			if why != api.OK || read != api.OK || !reeds.Same(back, s) {
				t.Errorf("%q: errors %d, %d, %v", got, why, read, flaw)
			}
		}
		for _, text := range []string{c, "x" + c, "\\" + c, "x\\" + c + c, "[" + c + "]", "[^" + c + "]", "\\/" + c, "\\/[" + c + "]", c + "\\/\\" + c, "[\\/]" + c, "\\\\" + c + "\\/"} {
			for _, extended := range []bool{false, true} {
				for _, by := range []string{"/", ",", "\x01", "x", " "} {
					read, why, _ := script.Parse("s"+by+slashed(text, by)+by+"\\"+by+by, extended)
					if why != api.OK {
						continue
					}
					for _, s := range []api.Script{read, {Commands: []api.Command{{Name: 'p', First: api.Addr{Kind: api.AddrRegex, Regex: read.Commands[0].Regex}}}, Extended: extended}} {
						got, why := pretty.Print(s)
						want, _ := written(s)
						back, flaws, flaw := script.Parse(got, extended)
						if why != api.OK || got != want || flaws != api.OK || !reeds.Same(back, s) {
							t.Errorf("%q, not %q: errors %d, %d, %v", got, want, why, flaws, flaw)
						}
					}
				}
			}
		}
	}
}

// slashed is an expression's text as it may stand between two of a byte.
func slashed(s, by string) string {
	all := pair.FindAllString(reeds.Wide(s), -1)
	for i, p := range all {
		if reeds.Narrow(p) == by {
			all[i] = "\\" + p
		}
	}
	return reeds.Narrow(strings.Join(slices.Clone(all), ""))
}
