package script_test

import (
	"math/rand"
	"regexp"
	"slices"
	"strings"
	"testing"

	"paddock/api"
	"paddock/nfa"
	"paddock/reeds"
	"paddock/script"
	"paddock/syntax"
	"paddock/twigs"
)

// A second reading of the words of 13.2: a form for each text that may be.
var (
	labelForm = regexp.MustCompile(`^[^ \t\n;]([^\n;]*[^ \t\n;])?$`)
	jumpForm  = regexp.MustCompile(`^([^ \t\n;}]([^\n;}]*[^ \t\n;}])?)?$`)
	fileForm  = regexp.MustCompile(`^[^ \t\n][^\n]*$`)
	shellForm = regexp.MustCompile(`^([^ \t\n][^\n]*)?$`)
	linesForm = regexp.MustCompile(`(?s)^.+\n$`)
)

// isRight is Check by its words: the number of the command at fault, -1 if there is none.
func isRight(s api.Script) int {
	open := 0
	for i, c := range s.Commands {
		switch c.Name {
		case '{':
			open++
		case '}':
			open--
		}
		if i >= 4096 || open < 0 || open > 64 || !alone(c, s.Extended) {
			return i
		}
	}
	var opened []int
	for i, c := range s.Commands {
		if c.Name == '{' {
			opened = append(opened, i)
		} else if c.Name == '}' {
			opened = opened[:len(opened)-1]
		}
	}
	if len(opened) > 0 {
		return opened[0]
	}
	is := func(name string, text string) func(api.Command) bool {
		return func(c api.Command) bool { return strings.IndexByte(name, c.Name) >= 0 && c.Text == text }
	}
	for i, c := range s.Commands {
		if c.Name == ':' && slices.ContainsFunc(s.Commands[:i], is(":", c.Text)) {
			return i
		}
	}
	for i, c := range s.Commands {
		if strings.IndexByte("btT", c.Name) >= 0 && c.Text != "" && !slices.ContainsFunc(s.Commands, is(":", c.Text)) {
			return i
		}
	}
	return -1
}

// alone tells whether a command is right by itself, but for blocks.
func alone(c api.Command, extended bool) bool {
	rest := api.Command{Text: c.Text, Other: c.Other, N: c.N, Regex: c.Regex, Subst: c.Subst}
	ok := true
	switch c.Name {
	case '{', '}', '=', 'd', 'D', 'F', 'g', 'G', 'h', 'H', 'n', 'N', 'p', 'P', 'x', 'z':
	case 'l':
		ok, rest.N = c.N >= -1 && c.N <= 1<<30, 0
	case 'q', 'Q':
		ok, rest.N = c.N >= -1 && c.N <= 255, 0
	case 'a', 'i', 'c':
		ok, rest.Text = linesForm.MatchString(reeds.Wide(c.Text)), ""
	case ':':
		ok, rest.Text = len(c.Text) <= 64 && labelForm.MatchString(reeds.Wide(c.Text)), ""
	case 'b', 't', 'T':
		ok, rest.Text = len(c.Text) <= 64 && jumpForm.MatchString(reeds.Wide(c.Text)), ""
	case 'r', 'R', 'w', 'W':
		ok, rest.Text = len(c.Text) <= 1024 && fileForm.MatchString(reeds.Wide(c.Text)), ""
	case 'e':
		ok, rest.Text = shellForm.MatchString(reeds.Wide(c.Text)), ""
	case 'y':
		left := []byte(c.Text)
		slices.Sort(left)
		ok, rest.Text, rest.Other = len(c.Text) == len(c.Other) && len(slices.Compact(left)) == len(c.Text), "", ""
	case 's':
		ok, rest.Regex, rest.Subst = isSubst(c, extended), api.Regex{}, api.Subst{}
	default:
		return false
	}
	bare := c.Name == ':' || c.Name == '}'
	if bare && (c.First.Kind != 0 || c.Not) || (c.Name == 'q' || c.Name == 'Q' || bare) && c.Second.Kind != 0 {
		return false
	}
	return ok && c.At >= 0 && areAddresses(c.First, c.Second, extended) && reeds.ShowCommand(rest) == reeds.ShowCommand(api.Command{})
}

func areAddresses(first, second api.Addr, extended bool) bool {
	firsts := []api.AddrKind{api.AddrNone, api.AddrLine, api.AddrLast, api.AddrRegex, api.AddrStep}
	seconds := []api.AddrKind{api.AddrNone, api.AddrLine, api.AddrLast, api.AddrRegex, api.AddrPlus, api.AddrMultiple}
	if !slices.Contains(firsts, first.Kind) || !slices.Contains(seconds, second.Kind) || first.Kind == api.AddrNone && second.Kind != api.AddrNone {
		return false
	}
	if first.Kind == api.AddrLine && first.N == 0 && second.Kind != api.AddrRegex {
		return false
	}
	for _, a := range []api.Addr{first, second} {
		rest := a
		rest.Kind = 0
		if a.Kind == api.AddrRegex {
			if !isRegex(a.Regex, extended) {
				return false
			}
			rest.Regex = api.Regex{}
		}
		if a.Kind != api.AddrNone && a.Kind != api.AddrLast && a.Kind != api.AddrRegex {
			rest.N = 0
		}
		if a.Kind == api.AddrStep {
			rest.Step = 0
		}
		if a.N < 0 || a.N > 1<<30 || a.Step < 0 || a.Step > 1<<30 || reeds.ShowCommand(api.Command{First: rest}) != reeds.ShowCommand(api.Command{}) {
			return false
		}
	}
	return true
}

func isRegex(x api.Regex, extended bool) bool {
	if x.Last {
		return x.Text == "" && !x.Fold && twigs.Same(x.Root, api.Node{})
	}
	n, why, _ := syntax.Parse(x.Text, extended)
	_, many := nfa.Size(n)
	return x.Text != "" && !strings.Contains(x.Text, "\n") && why == api.OK && many == api.OK && twigs.Same(x.Root, n)
}

func isSubst(c api.Command, extended bool) bool {
	s := c.Subst
	if !isRegex(c.Regex, extended) || s.Number < 0 || s.Number > 1<<30 || s.File != "" && (len(s.File) > 1024 || !fileForm.MatchString(reeds.Wide(s.File))) {
		return false
	}
	groups := 9
	if !c.Regex.Last {
		groups = min(9, len(twigs.Groups(c.Regex.Root)))
	}
	for i, p := range s.Pieces {
		ok := false
		switch p.Kind {
		case api.PieceText:
			ok = p.Text != "" && p.N == 0 && (i == 0 || s.Pieces[i-1].Kind != api.PieceText)
		case api.PieceGroup:
			ok = p.Text == "" && p.N >= 0 && p.N <= groups
		case api.PieceUpper, api.PieceLower, api.PieceFirst, api.PieceSmall, api.PieceEnd:
			ok = p.Text == "" && p.N == 0
		}
		if !ok {
			return false
		}
	}
	return true
}

// 13.2: right scripts of which some fields were changed.
func TestCheckSpoilt(t *testing.T) {
	chance := rand.New(rand.NewSource(5)).Intn
	wrongs := 0
	for i := range 20000 {
		s := reeds.Read(t, reeds.Grow(chance, chance(6)), i%2 == 0)
		for range 1 + chance(2) {
			reeds.Spoil(chance, &s)
		}
		want := isRight(s)
		why, at := script.Check(s)
		if want < 0 && (why != api.OK || at != 0) || want >= 0 && (why != api.ErrScript || at != want) {
			t.Fatalf("Check: error %d at %d, not at %d:\n%s", why, at, want, reeds.Show(s))
		}
		if want >= 0 {
			wrongs++
		}
	}
	if wrongs < 5000 || wrongs > 19000 {
		t.Error("wrong ones:", wrongs)
	}
}

// check tells whether a command alone is right, or at fault.
func check(t *testing.T, c api.Command, right bool) {
	t.Helper()
	for ahead := range 3 {
		s := api.Script{Commands: slices.Repeat([]api.Command{{Name: 'p'}}, ahead)}
		s.Commands = append(s.Commands, c, api.Command{Name: 'p'}, api.Command{Name: 'k'})
		want := ahead
		if right {
			want += 2 // the next one that is at fault
		}
		if why, at := script.Check(s); why != api.ErrScript || at != want {
			t.Errorf("error %d at %d, not at %d: %s", why, at, want, reeds.ShowCommand(c))
		}
	}
}

// 13.2: letters, and the fields that they do not use.
func TestCheckFields(t *testing.T) {
	told := map[byte]api.Command{
		'l': {N: -1}, 'q': {N: 0}, 'Q': {N: 255}, 'a': {Text: "x\n"}, 'i': {Text: "\n\n"}, 'c': {Text: " \n"}, ':': {Text: "a"}, 'b': {}, 't': {}, 'T': {}, 'r': {Text: "f"}, 'R': {Text: "f"}, 'w': {Text: "f"}, 'W': {Text: "f"}, 'e': {}, 'y': {Text: "a", Other: "b"}, 's': {Regex: regex("a")}, '{': {},
	}
	for b := range 256 {
		name := byte(b)
		c, takes := told[name]
		c.Name = name
		right := takes || strings.IndexByte("=dDFgGhHnNpPxz", name) >= 0
		if name == '}' || name == '{' {
			continue // they are right in blocks alone
		}
		check(t, c, right)
		if !right {
			continue
		}
		for i, change := range []func(*api.Command){
			func(c *api.Command) { c.At = -1 },
			func(c *api.Command) { c.Other += "x" },
			func(c *api.Command) { c.Regex.Last = !c.Regex.Last },
			func(c *api.Command) { c.Regex.Root.Kind++ },
			func(c *api.Command) { c.Regex.Root.Kids = []api.Node{{}} },
			func(c *api.Command) { c.Regex.Text += "\n" },
			func(c *api.Command) { c.First.N = 1 },
			func(c *api.Command) { c.First.Step = 1 },
			func(c *api.Command) { c.First.Regex.Last = true },
			func(c *api.Command) { c.Second.N = 1 },
			func(c *api.Command) { c.Second.Regex.Fold = true },
			func(c *api.Command) { c.Second.Regex.Text = "a" },
			func(c *api.Command) { c.Second = line(1) },
			func(c *api.Command) { c.Subst.Pieces = []api.Piece{{}} },
			func(c *api.Command) { c.Subst.Number = -1 },
			func(c *api.Command) { c.Subst.File = "\n" },
			func(c *api.Command) { c.N = 1 << 31 },
			func(c *api.Command) { c.N = -2 },
			func(c *api.Command) { // from here on right for some
				c.N = 1
				right = strings.IndexByte("lqQ", name) >= 0
			},
			func(c *api.Command) {
				c.Text = "x"
				right = strings.IndexByte(":btTrRwWey", name) >= 0
			},
			func(c *api.Command) {
				c.Subst.Global = true
				right = name == 's'
			},
			func(c *api.Command) {
				c.Subst.Print = true
				right = name == 's'
			},
			func(c *api.Command) {
				c.Subst.Exec = true
				right = name == 's'
			},
			func(c *api.Command) {
				c.Subst.File = "f"
				right = name == 's'
			},
			func(c *api.Command) {
				c.Subst.Number = 7
				right = name == 's'
			},
			func(c *api.Command) {
				c.Regex.Fold = true
				right = name == 's'
			},
			func(c *api.Command) {
				c.First = line(1)
				right = name != ':'
			},
			func(c *api.Command) {
				c.First, c.Second = line(1), line(0)
				right = name != ':' && name != 'q' && name != 'Q'
			},
			func(c *api.Command) {
				c.Not = true
				right = name != ':'
			},
			func(c *api.Command) { // empty lists are as none
				c.Subst.Pieces, c.First.Regex.Root.Kids = []api.Piece{}, []api.Node{}
				right = true
			},
			func(c *api.Command) {
				c.At = 1 << 40
				right = true
			},
		} {
			spoilt := c
			right = false
			change(&spoilt)
			if check(t, spoilt, right); t.Failed() {
				t.Fatalf("%q, change %d", name, i)
			}
		}
	}
}

// 13.2: addresses.
func TestCheckAddresses(t *testing.T) {
	for kind := range api.AddrCount + 2 {
		for next := range api.AddrCount + 2 {
			c := api.Command{Name: 'p', First: api.Addr{Kind: kind, N: 1, Regex: regex("a")}, Second: api.Addr{Kind: next, N: 1, Regex: regex("a")}}
			for _, a := range []*api.Addr{&c.First, &c.Second} {
				if a.Kind == api.AddrNone || a.Kind == api.AddrLast || a.Kind == api.AddrRegex {
					a.N = 0
				}
				if a.Kind != api.AddrRegex {
					a.Regex = api.Regex{}
				}
			}
			first := kind <= api.AddrStep
			second := next == api.AddrNone || kind != api.AddrNone && next != api.AddrStep && next < api.AddrCount
			check(t, c, first && second)
			c.First.N = 0
			check(t, c, first && second && (kind != api.AddrLine || next == api.AddrRegex))
		}
	}
	for n, right := range map[int]bool{-1: false, 0: true, 1: true, api.MaxNumber: true, api.MaxNumber + 1: false, -1 << 63: false} {
		check(t, api.Command{Name: 'p', First: line(n)}, right && n > 0)
		check(t, api.Command{Name: 'p', First: line(n), Second: by(last)}, right)
		check(t, api.Command{Name: 'p', First: api.Addr{Kind: api.AddrStep, N: n}}, right)
		check(t, api.Command{Name: 'p', First: api.Addr{Kind: api.AddrStep, Step: n}}, right)
		for _, kind := range []api.AddrKind{api.AddrLine, api.AddrPlus, api.AddrMultiple} {
			check(t, api.Command{Name: 'p', First: line(1), Second: api.Addr{Kind: kind, N: n}}, right)
			check(t, api.Command{Name: 'p', First: line(1), Second: api.Addr{Kind: kind, Step: n}}, n == 0)
		}
		check(t, api.Command{Name: 'p', First: api.Addr{Kind: api.AddrLast, N: n}}, n == 0)
		check(t, api.Command{Name: 'p', First: api.Addr{Kind: api.AddrRegex, N: n, Regex: last}}, n == 0)
	}
}

// 13.2: expressions, wherever they stand.
func TestCheckRegexes(t *testing.T) {
	full := strings.Repeat("x", api.MaxPattern)
	other := regex("a")
	other.Root = regex("b").Root
	deep := regex("\\(a\\)")
	deep.Root.Kids[0].Min = 1
	prog, _, _ := syntax.Parse("\\(a\\{255\\}\\)\\{255\\}", false)
	with := func(x api.Regex, change func(*api.Regex)) api.Regex {
		change(&x)
		return x
	}
	for _, c := range []struct {
		x     api.Regex
		right bool
	}{
		{last, true}, {regex("a"), true}, {folded("a"), true}, {regex(full), true}, {regex("\\(a\\)\\1"), true}, {regex("\xff\x00"), true}, {regex("a/b\\/"), true},
		{api.Regex{}, false}, {api.Regex{Fold: true}, false}, {api.Regex{Last: true, Fold: true}, false}, {api.Regex{Last: true, Text: "a"}, false}, {with(regex("a"), func(x *api.Regex) { x.Last = true }), false}, {api.Regex{Last: true, Root: api.Node{Min: 1}}, false}, {api.Regex{Last: true, Root: api.Node{Kids: []api.Node{{}}}}, false}, {api.Regex{Last: true, Root: api.Node{Kids: []api.Node{}}}, true},
		{api.Regex{Text: "a"}, false}, {other, false}, {deep, false}, {with(regex(full), func(x *api.Regex) { x.Text += "x" }), false}, {api.Regex{Text: "a\nb", Root: twigs.Each("a\nb")}, false}, {api.Regex{Text: "\\\n", Root: twigs.Of("\n")}, false}, {regex("\\("), false}, {api.Regex{Text: "\\(a\\{255\\}\\)\\{255\\}", Root: prog}, false}, {api.Regex{Root: api.Node{Kind: api.NodeEmpty}}, false},
	} {
		check(t, api.Command{Name: 's', Regex: c.x}, c.right)
		check(t, api.Command{Name: 'p', First: by(c.x)}, c.right)
		check(t, api.Command{Name: 'p', First: line(1), Second: by(c.x)}, c.right)
	}
	// Root is read as the script says.
	basic, extended := reeds.Read(t, "/(a)/p", false), reeds.Read(t, "/(a)/p", true)
	basic.Extended, extended.Extended = true, false
	for _, s := range []api.Script{basic, extended} {
		if why, at := script.Check(s); why != api.ErrScript || at != 0 {
			t.Error("of the other kind:", why, at)
		}
	}
}

// 13.2: the texts of commands.
func TestCheckTexts(t *testing.T) {
	long := func(n int) string { return strings.Repeat("x", n) }
	for names, texts := range map[string]map[string]bool{
		"aic":  {"": false, "\n": false, "a": false, "a\n": true, "\n\n": true, " \n": true, "a\nb": false, "a\nb\n": true, "\\\n": true, "ab": false},
		":":    {"": false, "a": true, " a": false, "a ": false, "\ta": false, "a\t": false, "a b": true, "a;b": false, ";": false, "a\n": false, "a}b": true, "}": true, "{": true, "#": true, long(api.MaxLabel): true, long(api.MaxLabel + 1): false, "\xff": true, "\\": true, " ": false, "\r": true},
		"btT":  {"": true, " ": false, "a;": false, "a\n": false, "a}": false, "}": false, " a": false, "a ": false, "a\t": false, long(api.MaxLabel + 1): false},
		"rRwW": {"": false, "a": true, " a": false, "\ta": false, "a ": true, "a b": true, "a\n": false, "\n": false, "a;}": true, long(api.MaxPath): true, long(api.MaxPath + 1): false, "\x00": true, "a\nb": false},
		"e":    {"": true, "a": true, " a": false, "\ta": false, "a ": true, "a\nb": false, long(9999): true},
	} {
		for _, name := range []byte(names) {
			for s, right := range texts {
				check(t, api.Command{Name: name, Text: s}, right)
			}
		}
	}
	for s, right := range map[string]bool{"": true, "a": true, " a": false, "a ": true, "a\n": false, long(api.MaxPath): true, long(api.MaxPath + 1): false, "\t": false} {
		check(t, api.Command{Name: 's', Regex: last, Subst: api.Subst{File: s}}, right)
	}
	for c, right := range map[[2]string]bool{{"", ""}: true, {"a", "b"}: true, {"a", ""}: false, {"", "a"}: false, {"aa", "bc"}: false, {"ab", "cc"}: true, {"ab", "c"}: false, {"\n\\", "/&"}: true, {"aba", "xyz"}: false, {"\xff\x00", "\x00\xff"}: true} {
		check(t, api.Command{Name: 'y', Text: c[0], Other: c[1]}, right)
	}
}

// 13.2: numbers and pieces.
func TestCheckNumbers(t *testing.T) {
	for n, most := range map[int]byte{-2: 0, -1: 'q', 0: 'q', 255: 'q', 256: 'l', api.MaxNumber: 'l', api.MaxNumber + 1: 0, -1 << 63: 0} {
		check(t, api.Command{Name: 'l', N: n}, most != 0)
		check(t, api.Command{Name: 'q', N: n}, most == 'q')
		check(t, api.Command{Name: 'Q', N: n}, most == 'q')
		check(t, api.Command{Name: 's', Regex: last, Subst: api.Subst{Number: n}}, most != 0 && n >= 0)
	}
	nine := regex(strings.Repeat("\\(a\\)", 9))
	ten := regex(strings.Repeat("\\(a\\)", 10))
	for _, c := range []struct {
		x      api.Regex
		pieces []api.Piece
		right  bool
	}{
		{last, nil, true}, {last, []api.Piece{text("a")}, true}, {last, []api.Piece{text("")}, false}, {last, []api.Piece{text("a"), text("b")}, false}, {last, []api.Piece{text("a"), group(0), text("b")}, true}, {last, []api.Piece{text("a"), turn(api.PieceEnd), text("b"), group(9)}, true}, {last, []api.Piece{group(0), text("a"), text("b")}, false},
		{last, []api.Piece{group(9)}, true}, {last, []api.Piece{group(10)}, false}, {last, []api.Piece{group(-1)}, false}, {regex("a"), []api.Piece{group(0)}, true}, {regex("a"), []api.Piece{group(1)}, false}, {nine, []api.Piece{group(9)}, true}, {nine, []api.Piece{group(1), group(10)}, false}, {ten, []api.Piece{group(10)}, false}, {regex("\\(a\\)"), []api.Piece{group(1), group(2)}, false}, {regex("\\(a\\)"), []api.Piece{text("x"), group(1)}, true},
		{last, []api.Piece{{}}, false}, {last, []api.Piece{{Kind: api.PieceCount}}, false}, {last, []api.Piece{{Kind: 255}}, false}, {last, []api.Piece{{Kind: api.PieceText, N: 1, Text: "a"}}, false}, {last, []api.Piece{{Kind: api.PieceGroup, N: 1, Text: "a"}}, false}, {last, []api.Piece{{Kind: api.PieceUpper, N: 1}}, false}, {last, []api.Piece{{Kind: api.PieceEnd, Text: "a"}}, false},
		{last, []api.Piece{turn(api.PieceUpper), turn(api.PieceLower), turn(api.PieceFirst), turn(api.PieceSmall), turn(api.PieceEnd), turn(api.PieceEnd)}, true},
	} {
		check(t, api.Command{Name: 's', Regex: c.x, Subst: api.Subst{Pieces: c.pieces}}, c.right)
	}
}

// 13.2: blocks, labels and how many commands there are; which of several faults is told.
func TestCheckWhole(t *testing.T) {
	one := func(s string) (out []api.Command) {
		for _, w := range strings.Fields(s) {
			c := api.Command{Name: w[0], Text: w[1:]}
			out = append(out, c)
		}
		return out
	}
	for s, want := range map[string]int{
		"": -1, "{ }": -1, "{ { } }": -1, "{": 0, "{ p": 0, "p {": 1, "{ { }": 0, "{ } {": 2, "{ } { {": 2, "}": 0, "p }": 1, "{ } }": 2, "{ } } {": 2,
		":a ba": -1, "ba :a": -1, ":a :b :a": 2, ":a :a :a": 1, ":b :a :a :b": 2, "bx": 0, ":a bb": 1, "p tx Ty": 1, "p Tx": 1, "b t T": -1, ":a bx :a": 2, "{ :a :a bx": 0, "bx {": 1, "bx :a :a": 2, "{ k": 1, ":a :a k": 2, "bx :a }": 2, ":a} bx": 1, "wx bx": 1,
	} {
		why, at := script.Check(api.Script{Commands: one(s)})
		if want < 0 && (why != api.OK || at != 0) || want >= 0 && (why != api.ErrScript || at != want) {
			t.Errorf("%q: error %d at %d", s, why, at)
		}
	}
	p := slices.Repeat(one("p"), api.MaxCommand)
	deep := slices.Repeat(one("{"), api.MaxNest)
	shut := slices.Repeat(one("}"), api.MaxNest)
	for i, c := range []struct {
		l    []api.Command
		want int
	}{
		{p, -1}, {slices.Concat(p, one("p")), api.MaxCommand}, {slices.Concat(p, one("k p p")), api.MaxCommand}, {slices.Concat(p[1:], one("k p p")), api.MaxCommand - 1}, {slices.Concat(one("{"), p), api.MaxCommand}, {slices.Concat(one("{"), p[1:]), 0}, {slices.Concat(one("bx"), p, p), api.MaxCommand}, {slices.Concat(one("k"), p), 0},
		{slices.Concat(deep, shut), -1}, {slices.Concat(deep, one("{"), shut, one("}")), api.MaxNest}, {slices.Concat(deep, one("} {"), shut), -1}, {slices.Concat(deep, one("p {"), one("k")), api.MaxNest + 1}, {deep, 0},
	} {
		why, at := script.Check(api.Script{Commands: c.l})
		if c.want < 0 && (why != api.OK || at != 0) || c.want >= 0 && (why != api.ErrScript || at != c.want) {
			t.Errorf("case %d: error %d at %d, not at %d", i, why, at, c.want)
		}
	}
	for _, c := range []api.Command{{Name: '}', First: line(1)}, {Name: '}', Not: true}, {Name: '}', Text: "a"}, {Name: '{', Text: "a"}, {Name: '{', N: 1}, {Name: '}', At: -1}} {
		if why, at := script.Check(api.Script{Commands: append(one("{"), c)}); why != api.ErrScript || at != 1 {
			t.Errorf("error %d at %d: %s", why, at, reeds.ShowCommand(c))
		}
	}
	// Example 5.
	s := reeds.Read(t, "1,/x/I!{s/a\\/b/&\\n/2gw out\n}", false)
	if why, at := script.Check(s); why != api.OK || at != 0 {
		t.Error("example 5:", why, at)
	}
	s.Commands = s.Commands[:2]
	if why, at := script.Check(s); why != api.ErrScript || at != 0 {
		t.Error("example 5, the } left out:", why, at)
	}
}
