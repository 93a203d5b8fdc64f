package syntax_test

import (
	"strconv"
	"strings"
	"testing"

	"paddock/api"
	"paddock/sets"
	"paddock/syntax"
)

// P8.3: each form, as an extended and as a basic expression.
func TestPrint(t *testing.T) {
	a := of("a")
	for _, c := range []struct {
		n              api.Node
		wantExt, wantB string
	}{
		{empty, "", ""}, {a, "a", "a"}, {begin, "^", "^"}, {end, "$", "$"}, {any(), ".", "."}, {of("ab"), "[ab]", "[ab]"}, {of("a-"), "[[.-.]a]", "[[.-.]a]"}, {in(api.Set{}), "[^\x00-\xff]", "[^\x00-\xff]"}, {in(sets.Not(sets.Of([]byte("a")))), "[^a]", "[^a]"},
		{of("*"), "\\*", "\\*"}, {of("\n"), "\\n", "\\n"}, {of("\t"), "\t", "\t"}, {of("]"), "]", "]"}, {of("}"), "}", "}"},
		{repeat(0, -1, a), "a*", "a*"}, {repeat(1, -1, a), "a+", "a\\{1,\\}"}, {repeat(0, 1, a), "a?", "a\\{0,1\\}"}, {repeat(0, 0, a), "a{0}", "a\\{0\\}"}, {repeat(1, 1, a), "a{1}", "a\\{1\\}"}, {repeat(2, -1, a), "a{2,}", "a\\{2,\\}"}, {repeat(2, 3, a), "a{2,3}", "a\\{2,3\\}"}, {repeat(0, 2, a), "a{0,2}", "a\\{0,2\\}"}, {repeat(1, 2, a), "a{1,2}", "a\\{1,2\\}"}, {repeat(255, 255, a), "a{255}", "a\\{255\\}"}, {repeat(255, -1, a), "a{255,}", "a\\{255,\\}"}, {repeat(0, 255, of("*")), "\\*{0,255}", "\\*\\{0,255\\}"},
		{group(1, a), "(a)", "\\(a\\)"}, {group(1, empty), "()", "\\(\\)"}, {cat(group(1, a), back(1)), "(a)\\1", "\\(a\\)\\1"}, {alt(a, empty), "a|", "a\\|"}, {alt(cat(a, a), of("|"), of("+")), "aa|\\||\\+", "aa\\||\\|+"}, {repeat(0, -1, group(1, alt(a, of("b")))), "(a|b)*", "\\(a\\|b\\)*"},
		{cat(begin, of("*"), end), "^\\*$", "^\\*$"}, {alt(cat(begin, a), cat(a, end)), "^a|a$", "^a\\|a$"}, {group(1, cat(begin, end)), "(^$)", "\\(^$\\)"}, {cat(group(1, begin), a, group(2, end)), "(^)a($)", "\\(^\\)a\\($\\)"}, {repeat(0, -1, group(1, begin)), "(^)*", "\\(^\\)*"}, {each("a^b$c"), "a\\^b\\$c", "a\\^b\\$c"}, {each("(){}|+?"), "\\(\\)\\{}\\|\\+\\?", "(){}|+?"},
	} {
		for _, ext := range []bool{basic, extended} {
			want := c.wantB
			if ext {
				want = c.wantExt
			}
			if s, why := syntax.Print(c.n, ext); s != want || why != api.OK {
				t.Errorf("Print(%s, %v) = %q, %d, not %q", show(c.n), ext, s, why, want)
			}
		}
	}
}

// P8.3: each byte alone.
func TestPrintBytes(t *testing.T) {
	for b := range 256 {
		one := string([]byte{byte(b)})
		for ext, special := range map[bool]string{basic: "\\^$.[*", extended: "\\^$.[*()+?{|"} {
			want := one
			if strings.Contains(special, one) {
				want = "\\" + one
			}
			if one == "\n" {
				want = "\\n"
			}
			if s, why := syntax.Print(of(one), ext); s != want || why != api.OK {
				t.Errorf("%q, %v: %q, %d", one, ext, s, why)
			}
		}
	}
}

// P8.3: anchors where a basic expression has none; an extended one has them.
func TestCannot(t *testing.T) {
	a := of("a")
	for want, n := range map[string]api.Node{
		"a^": cat(a, begin), "$a": cat(end, a), "^^": cat(begin, begin), "$$": cat(end, end), "$^": cat(end, begin), "a^a": cat(a, begin, a), "a$a": cat(a, end, a), "(a^)": group(1, cat(a, begin)), "a|b$c": alt(a, cat(of("b"), end, of("c"))), "(a|b^)*": repeat(0, -1, group(1, alt(a, cat(of("b"), begin)))), "(^)^": cat(group(1, begin), begin), "^a$b": cat(begin, a, end, of("b")),
	} {
		if s, why := syntax.Print(n, basic); s != "" || why != api.ErrCannot {
			t.Errorf("%q: %q, %d", want, s, why)
		}
		if s, why := syntax.Print(n, extended); s != want || why != api.OK {
			t.Errorf("%q: %q, %d", want, s, why)
		}
	}
}

// P8.3: MaxPattern at it, and one past it, whatever stands there; and which error comes first.
func TestPrintLong(t *testing.T) {
	ones := func(n int, rest ...api.Node) api.Node {
		return cat(append(each(strings.Repeat("a", n)).Kids, rest...)...)
	}
	for _, ext := range []bool{basic, extended} {
		for _, last := range []api.Node{of("b"), any(), of("*"), of("xy"), of("\n"), repeat(0, -1, of("b")), repeat(2, 3, of("b")), group(1, empty), end} {
			s, _ := syntax.Print(last, ext)
			n := ones(api.MaxPattern-len(s), last)
			if got, why := syntax.Print(n, ext); why != api.OK || len(got) != api.MaxPattern || !strings.HasSuffix(got, s) {
				t.Errorf("%q at the bound: %d, %d", s, len(got), why)
			}
			if back, why, _ := syntax.Parse(strings.Repeat("a", api.MaxPattern-len(s))+s, ext); why != api.OK || !same(back, n) {
				t.Errorf("%q at the bound is read: %d", s, why)
			}
			if got, why := syntax.Print(ones(api.MaxPattern+1-len(s), last), ext); got != "" || why != api.ErrLong {
				t.Errorf("%q beyond the bound: %q, %d", s, got, why)
			}
		}
		if got, why := syntax.Print(ones(2*api.MaxPattern, back(1)), ext); got != "" || why != api.ErrNode {
			t.Errorf("wrong and long: %q, %d", got, why)
		}
		bars := alt(make([]api.Node, 1<<20)...)
		for i := range bars.Kids {
			bars.Kids[i] = empty
		}
		if got, why := syntax.Print(bars, ext); got != "" || why != api.ErrLong {
			t.Errorf("many bars: %q, %d", got, why)
		}
	}
	if got, why := syntax.Print(ones(2*api.MaxPattern, begin), basic); got != "" || why != api.ErrCannot {
		t.Errorf("not basic, and long: %q, %d", got, why)
	}
	if got, why := syntax.Print(cat(of("a"), begin, back(1)), basic); got != "" || why != api.ErrNode {
		t.Errorf("wrong, and not basic: %q, %d", got, why)
	}
}

// printed is Print by its words, anchors wherever they stand.
func printed(n api.Node, ext bool) string {
	g := grammar{ext: ext}
	var kids []string
	for _, k := range n.Kids {
		kids = append(kids, printed(k, ext))
	}
	switch n.Kind {
	case api.NodeSet:
		return printedSet(n.Set, ext)
	case api.NodeCat:
		return strings.Join(kids, "")
	case api.NodeAlt:
		return strings.Join(kids, g.mark("|"))
	case api.NodeGroup:
		return g.mark("(") + kids[0] + g.mark(")")
	case api.NodeBack:
		return "\\" + strconv.Itoa(n.Group)
	case api.NodeBegin:
		return "^"
	case api.NodeEnd:
		return "$"
	case api.NodeRepeat:
		least, most := strconv.Itoa(n.Min), strconv.Itoa(n.Max)
		short := map[[2]int]string{{0, -1}: "*"}
		if ext {
			short[[2]int{1, -1}], short[[2]int{0, 1}] = "+", "?"
		}
		form, ok := short[[2]int{n.Min, n.Max}]
		switch {
		case ok:
		case n.Min == n.Max:
			form = g.mark("{") + least + g.mark("}")
		case n.Max == -1:
			form = g.mark("{") + least + "," + g.mark("}")
		default:
			form = g.mark("{") + least + "," + most + g.mark("}")
		}
		return kids[0] + form
	}
	return ""
}

func printedSet(s api.Set, ext bool) string {
	b := sets.Bytes(s)
	switch {
	case len(b) == 256:
		return "."
	case len(b) != 1:
		return "[" + sets.Print(s)
	case b[0] == '\n':
		return "\\n"
	case strings.IndexByte("\\^$.[*", b[0]) >= 0 || ext && strings.IndexByte("()+?{|", b[0]) >= 0:
		return "\\" + string(b)
	}
	return string(b)
}

// P8.3, P8.6, P8.7, P8.8: grown trees are written by the words, and read as they were; a basic expression there is just where the text would be read so.
func TestThereAndBack(t *testing.T) {
	count := map[api.Errno]int{}
	for _, n := range grown(86, 6000) {
		if !syntax.Right(n) {
			t.Fatalf("%s is right", show(n))
		}
		for _, ext := range []bool{basic, extended} {
			want, wantWhy := printed(n, ext), api.OK
			read, readWhy, _ := syntax.Parse(want, ext)
			long := len(want) > api.MaxPattern
			if isRead := readWhy == api.OK && same(read, n); !isRead && !long {
				want, wantWhy = "", api.ErrCannot
			}
			s, why := syntax.Print(n, ext)
			if !long && (s != want || why != wantWhy) || ext && why == api.ErrCannot {
				t.Fatalf("Print(%s, %v) = %q, %d, not %q, %d", show(n), ext, s, why, want, wantWhy)
			}
			count[why]++
			if why != api.OK {
				continue
			}
			back, no, at := syntax.Parse(s, ext)
			if !same(back, n) || no != api.OK || at != 0 || !syntax.Right(back) {
				t.Fatalf("P8.6: %q of %s is read as %s, %d, %d", s, show(n), show(back), no, at)
			}
		}
	}
	if count[api.OK] < 6000 || count[api.ErrCannot] < 500 {
		t.Error("too few of one kind:", count)
	}
}
