package script_test

import (
	"slices"
	"strings"
	"testing"

	"paddock/api"
	"paddock/reeds"
	"paddock/script"
	"paddock/syntax"
)

// regex is the expression of a basic text.
func regex(text string) api.Regex {
	root, _, _ := syntax.Parse(text, false)
	return api.Regex{Text: text, Root: root}
}

func folded(text string) api.Regex {
	x := regex(text)
	x.Fold = true
	return x
}

var last = api.Regex{Last: true}

func line(n int) api.Addr { return api.Addr{Kind: api.AddrLine, N: n} }

func by(x api.Regex) api.Addr { return api.Addr{Kind: api.AddrRegex, Regex: x} }

func text(s string) api.Piece { return api.Piece{Kind: api.PieceText, Text: s} }

func group(n int) api.Piece { return api.Piece{Kind: api.PieceGroup, N: n} }

func turn(kind api.PieceKind) api.Piece { return api.Piece{Kind: kind} }

// subst is a command s at 0.
func subst(x api.Regex, s api.Subst) api.Command { return api.Command{Name: 's', Regex: x, Subst: s} }

// reads tells whether a text is read as some commands, with their places.
func reads(t *testing.T, s string, want ...api.Command) {
	t.Helper()
	got, why, flaw := script.Parse(s, false)
	all := api.Script{Commands: want, Quiet: got.Quiet}
	if why != api.OK || flaw != (api.Flaw{}) || !reeds.Same(got, all) || !slices.Equal(reeds.Places(got), reeds.Places(all)) {
		t.Errorf("Parse(%.200q): error %d, %v;\n%s %v\nnot\n%s %v", s, why, flaw, reeds.Show(got), reeds.Places(got), reeds.Show(all), reeds.Places(all))
	}
}

// 13.1, examples 1 and 4.
func TestExamples(t *testing.T) {
	reads(t, "p", api.Command{Name: 'p'})
	reads(t, "1,/x/I!{s/a\\/b/&\\n/2gw out\n}",
		api.Command{At: 7, First: line(1), Second: by(folded("x")), Not: true, Name: '{'},
		api.Command{At: 8, Name: 's', Regex: regex("a/b"), Subst: api.Subst{Pieces: []api.Piece{group(0), text("\n")}, Number: 2, Global: true, File: "out"}},
		api.Command{At: 27, Name: '}'})
	reads(t, "0,/x/p", api.Command{At: 5, First: line(0), Second: by(regex("x")), Name: 'p'})
	reads(t, "s|a\\|b||", subst(regex("a[|]b"), api.Subst{}))
}

// 13.1: what stands between commands, and where a command's letter is.
func TestBetween(t *testing.T) {
	p := func(at int) api.Command { return api.Command{At: at, Name: 'p'} }
	for _, s := range []string{"", " ", "\n", ";", " \t\n;;\n", "#", "# p", "#p;p", "#\n#", "#n", "#n\n", " # x\n;"} {
		reads(t, s)
	}
	reads(t, " \t\n;p", p(4))
	reads(t, "p;p", p(0), p(2))
	reads(t, "p\np", p(0), p(2))
	reads(t, "p ;\t\n p", p(0), p(6))
	reads(t, "p#x;p\np", p(0), p(6))
	reads(t, "p # p", p(0))
	reads(t, "#{\np", p(3))
	reads(t, "#\\\np", p(3))
	reads(t, "{p}", api.Command{Name: '{'}, p(1), api.Command{At: 2, Name: '}'})
	reads(t, "{ p ; p\n} ; p", api.Command{Name: '{'}, p(2), p(6), api.Command{At: 8, Name: '}'}, p(12))
	reads(t, "{}", api.Command{Name: '{'}, api.Command{At: 1, Name: '}'})
	reads(t, "{{};}#x", api.Command{Name: '{'}, api.Command{At: 1, Name: '{'}, api.Command{At: 2, Name: '}'}, api.Command{At: 4, Name: '}'})
	reads(t, "{{}}", api.Command{Name: '{'}, api.Command{At: 1, Name: '{'}, api.Command{At: 2, Name: '}'}, api.Command{At: 3, Name: '}'})
}

// 13.1: Quiet, and Extended.
func TestQuiet(t *testing.T) {
	for s, want := range map[string]bool{"#n": true, "#n\n": true, "#n\np": true, "": false, "#": false, "#n ": false, "#n;": false, "#nn": false, "#nn\n": false, " #n": false, "\n#n": false, "#N": false, "# n": false, "p\n#n": false, "n": false} {
		for _, extended := range []bool{false, true} {
			got, why, _ := script.Parse(s, extended)
			if why != api.OK || got.Quiet != want || got.Extended != extended {
				t.Errorf("Parse(%q, %v): %d, %v, %v", s, extended, why, got.Quiet, got.Extended)
			}
		}
	}
	basic, extended := reeds.Read(t, "s/(a)/b/", false), reeds.Read(t, "s/(a)/\\1/", true)
	if len(basic.Commands[0].Regex.Root.Kids) != 3 || extended.Commands[0].Regex.Root.Kind != api.NodeGroup {
		t.Error("an expression of the other kind")
	}
}

// 13.1: addresses.
func TestAddresses(t *testing.T) {
	step := func(n, s int) api.Addr { return api.Addr{Kind: api.AddrStep, N: n, Step: s} }
	end := api.Addr{Kind: api.AddrLast}
	for s, want := range map[string]api.Addr{
		"1": line(1), "007": line(7), "1073741824": line(1 << 30), "000000000000000000001": line(1), "$": end, "1~2": step(1, 2), "0~4": step(0, 4), "2~0": step(2, 0), "0~0": step(0, 0), "1073741824~1073741824": step(1<<30, 1<<30),
		"/a/": by(regex("a")), "/a/I": by(folded("a")), "//": by(last), "/a;b}#c d/": by(regex("a;b}#c d")), "\\,a,": by(regex("a")), "\\,a,I": by(folded("a")), "\\,,": by(last), "\\;a;": by(regex("a")), "\\ a ": by(regex("a")), "\\/a/": by(regex("a")), "\\#a#": by(regex("a")), "\\\x00a\x00": by(regex("a")), "\\\xffa\xff": by(regex("a")), "\\IaI": by(regex("a")), "\\IaII": by(folded("a")), "\\1a1": by(regex("a")),
		"/\\//": by(regex("/")), "/a\\/b\\/c/": by(regex("a/b/c")), "/\\\\/": by(regex("\\\\")), "/\\\\\\//": by(regex("\\\\/")), "/\\n/": by(regex("\\n")), "\\,\\/,": by(regex("\\/")), "\\n\\nn": by(regex("n")), "\\1\\11": by(regex("1")), "\\]\\]]": by(regex("]")), "\\^\\^^": by(regex("\\^")), "\\^a\\^b^": by(regex("a\\^b")), "\\,[\\,],": by(regex("[,]")), "/[\\/]/": by(regex("[/]")), "\\-[a\\-c]-": by(regex("[a-c]")),
		"\\.\\..": by(regex("[.]")), "\\[\\[[": by(regex("[[]")), "\\*\\**": by(regex("[*]")), "\\$\\$$": by(regex("[$]")), "\\+\\++": by(regex("[+]")), "\\?\\??": by(regex("[?]")), "\\(\\((": by(regex("[(]")), "\\)\\))": by(regex("[)]")), "\\{\\{{": by(regex("[{]")), "\\}\\}}": by(regex("[}]")), "\\|\\||": by(regex("[|]")), "\\&\\&&": by(regex("&")), "\\.\\.x\\..": by(regex("[.]x[.]")),
	} {
		reads(t, s+"p", api.Command{At: len(s), First: want, Name: 'p'})
		reads(t, " "+s+"\t p", api.Command{At: len(s) + 3, First: want, Name: 'p'})
		reads(t, s+" , $p", api.Command{At: len(s) + 4, First: want, Second: end, Name: 'p'})
		if want.Kind != api.AddrStep {
			reads(t, "$,"+s+"p", api.Command{At: len(s) + 2, First: end, Second: want, Name: 'p'})
		}
	}
	for s, want := range map[string]api.Addr{"+0": {Kind: api.AddrPlus}, "+3": {Kind: api.AddrPlus, N: 3}, "~4": {Kind: api.AddrMultiple, N: 4}, "~0": {Kind: api.AddrMultiple}, "+1073741824": {Kind: api.AddrPlus, N: 1 << 30}, "~1073741824": {Kind: api.AddrMultiple, N: 1 << 30}, "0": line(0), "3": line(3)} {
		reads(t, "2,"+s+"p", api.Command{At: len(s) + 2, First: line(2), Second: want, Name: 'p'})
		reads(t, "2\t, "+s+" ! p", api.Command{At: len(s) + 7, First: line(2), Second: want, Not: true, Name: 'p'})
	}
	reads(t, "!p", api.Command{At: 1, Not: true, Name: 'p'})
	reads(t, "1!p", api.Command{At: 2, First: line(1), Not: true, Name: 'p'})
	reads(t, "0,//p", api.Command{At: 4, First: line(0), Second: by(last), Name: 'p'})
}

// 13.1: letters that take nothing, a number, a label, a file, a command.
func TestLetters(t *testing.T) {
	for _, name := range []byte("=dDFgGhHnNpPxz") {
		for _, end := range []string{"", ";", "\n", " ;", "\t#x", "#"} {
			reads(t, string(name)+end, api.Command{Name: name})
		}
	}
	for s, want := range map[string]int{"": -1, " ": -1, "0": 0, " 7": 7, "\t007 ": 7, "255;": 255, "00000000000000000000255": 255, "5#": 5} {
		reads(t, "q"+s, api.Command{Name: 'q', N: want})
		reads(t, "Q"+s, api.Command{Name: 'Q', N: want})
		reads(t, "l"+s, api.Command{Name: 'l', N: want})
	}
	reads(t, "l1073741824", api.Command{Name: 'l', N: 1 << 30})
	reads(t, "l256", api.Command{Name: 'l', N: 256})
	reads(t, "1q", api.Command{At: 1, First: line(1), Name: 'q', N: -1})
	for _, s := range []string{"a", " a", "\t a \t", "a\n", "a;", "a ;"} {
		reads(t, ":"+s, api.Command{Name: ':', Text: "a"})
	}
	reads(t, ": a b#c}{/", api.Command{Name: ':', Text: "a b#c}{/"})
	reads(t, ":\\", api.Command{Name: ':', Text: "\\"})
	for _, name := range []byte("btT") {
		reads(t, string(name), api.Command{Name: name})
		reads(t, "{"+string(name)+" }", api.Command{Name: '{'}, api.Command{At: 1, Name: name}, api.Command{At: 3, Name: '}'})
		reads(t, string(name)+" a \n:a", api.Command{Name: name, Text: "a"}, api.Command{At: 5, Name: ':', Text: "a"})
		reads(t, "{"+string(name)+"a#b};:a#b", api.Command{Name: '{'}, api.Command{At: 1, Name: name, Text: "a#b"}, api.Command{At: 5, Name: '}'}, api.Command{At: 7, Name: ':', Text: "a#b"})
	}
	for _, name := range []byte("rRwW") {
		reads(t, string(name)+"f", api.Command{Name: name, Text: "f"})
		reads(t, string(name)+" \ta b;}#\\ \np", api.Command{Name: name, Text: "a b;}#\\ "}, api.Command{At: 12, Name: 'p'})
	}
	reads(t, "e", api.Command{Name: 'e'})
	reads(t, "e \t", api.Command{Name: 'e'})
	reads(t, "e\np", api.Command{Name: 'e'}, api.Command{At: 2, Name: 'p'})
	reads(t, "e  ls -l; x} \\\np", api.Command{Name: 'e', Text: "ls -l; x} \\"}, api.Command{At: 15, Name: 'p'})
}

// 13.1: the text of a, i, c.
func TestLines(t *testing.T) {
	for s, want := range map[string]string{
		"\\\n  x\\\ny": "  x\ny\n", "  x": "x\n", "\\  x": "  x\n", "x": "x\n", "\tx y;}#z ": "x y;}#z \n", "\\x": "x\n", "\\\nx": "x\n", " \\ \t\n\tx": "\tx\n", " \\ \tx": " \tx\n",
		"\\\\x": "x\n", " \\\\x": "x\n", "x\\": "x\\\n", "x\\\\": "x\\\n", "x\\t\\&": "xt&\n", "\\\n\\": "\\\n", "\\\\": "\\\n", "\\\n\\\n": "\n\n", "x\\\n": "x\n\n", "\\\n\\  x": "  x\n", "\\\n\x00\xff": "\x00\xff\n", "\\ \\x": " x\n", "\\\n\\\n\\\nx": "\n\nx\n",
	} {
		for _, name := range []byte("aic") {
			reads(t, string(name)+s, api.Command{Name: name, Text: want})
			if !strings.HasSuffix(s, "\\") {
				reads(t, string(name)+s+"\np", api.Command{Name: name, Text: want}, api.Command{At: len(s) + 2, Name: 'p'})
			}
		}
	}
	reads(t, "$!{a x\n}", api.Command{At: 2, First: api.Addr{Kind: api.AddrLast}, Not: true, Name: '{'}, api.Command{At: 3, Name: 'a', Text: "x\n"}, api.Command{At: 7, Name: '}'})
}

// 13.1: s, its replacement and its flags.
func TestSubst(t *testing.T) {
	for s, want := range map[string][]api.Piece{
		"": nil, "x": {text("x")}, "xyz": {text("xyz")}, "&": {group(0)}, "\\0": {group(0)}, "\\1\\2": {group(1), group(2)}, "\\12": {group(1), text("2")}, "a&b": {text("a"), group(0), text("b")}, "\\&": {text("&")}, "\\\\": {text("\\")}, "\\/": {text("/")}, "a\\/b": {text("a/b")}, "\\\n": {text("\n")}, "a\\\nb": {text("a\nb")},
		"\\U\\L\\u\\l\\E": {turn(api.PieceUpper), turn(api.PieceLower), turn(api.PieceFirst), turn(api.PieceSmall), turn(api.PieceEnd)}, "a\\Ub\\Ec": {text("a"), turn(api.PieceUpper), text("b"), turn(api.PieceEnd), text("c")}, "\\a\\f\\n\\r\\t\\v": {text("\x07\x0c\x0a\x0d\x09\x0b")}, "\\b\\c\\d\\e\\g\\x\\A\\.": {text("bcdegxA.")}, ";}#|": {text(";}#|")}, "\\\\n": {text("\\n")}, "\\\\\\n": {text("\\\n")}, "\\\x00\\\xff": {text("\x00\xff")}, "&&": {group(0), group(0)}, "\\&&\\&": {text("&"), group(0), text("&")},
	} {
		reads(t, "s/\\(a\\)\\(b\\)/"+s+"/", subst(regex("\\(a\\)\\(b\\)"), api.Subst{Pieces: want}))
	}
	for s, want := range map[string]api.Command{
		"s,a,\\,,": subst(regex("a"), api.Subst{Pieces: []api.Piece{text(",")}}), "s&a&\\&&": subst(regex("a"), api.Subst{Pieces: []api.Piece{text("&")}}), "sUaU\\UU": subst(regex("a"), api.Subst{Pieces: []api.Piece{text("U")}}), "s1\\(a\\)1\\11": subst(regex("\\(a\\)"), api.Subst{Pieces: []api.Piece{text("1")}}), "snan\\nn": subst(regex("a"), api.Subst{Pieces: []api.Piece{text("n")}}), "s a b g": subst(regex("a"), api.Subst{Pieces: []api.Piece{text("b")}, Global: true}), "s;a;b;": subst(regex("a"), api.Subst{Pieces: []api.Piece{text("b")}}), "s}a}b}": subst(regex("a"), api.Subst{Pieces: []api.Piece{text("b")}}), "s\x00a\x00b\x00": subst(regex("a"), api.Subst{Pieces: []api.Piece{text("b")}}), "sgagbgg": subst(regex("a"), api.Subst{Pieces: []api.Piece{text("b")}, Global: true}),
		"s///": subst(last, api.Subst{}), "s//\\9/": subst(last, api.Subst{Pieces: []api.Piece{group(9)}}), "s/\\//x/": subst(regex("/"), api.Subst{Pieces: []api.Piece{text("x")}}),
	} {
		reads(t, s, want)
		reads(t, s+" ;", want)
	}
	on := func(f func(*api.Subst)) api.Subst {
		s := api.Subst{Pieces: []api.Piece{text("b")}}
		f(&s)
		return s
	}
	for s, want := range map[string]api.Subst{
		"": on(func(*api.Subst) {}), "g": on(func(s *api.Subst) { s.Global = true }), "p": on(func(s *api.Subst) { s.Print = true }), "e": on(func(s *api.Subst) { s.Exec = true }), "1": on(func(s *api.Subst) { s.Number = 1 }), "0012": on(func(s *api.Subst) { s.Number = 12 }), "1073741824": on(func(s *api.Subst) { s.Number = 1 << 30 }), "gp": on(func(s *api.Subst) { s.Global, s.Print = true, true }), "2ge": on(func(s *api.Subst) { s.Number, s.Global, s.Exec = 2, true, true }), "pe3g": on(func(s *api.Subst) { s.Print, s.Exec, s.Number, s.Global = true, true, 3, true }),
		"w f": on(func(s *api.Subst) { s.File = "f" }), "wf": on(func(s *api.Subst) { s.File = "f" }), "w \tf g;}# ": on(func(s *api.Subst) { s.File = "f g;}# " }), "pw f": on(func(s *api.Subst) { s.Print, s.File = true, "f" }), "g2w f": on(func(s *api.Subst) { s.Global, s.Number, s.File = true, 2, "f" }),
	} {
		reads(t, "s/a/b/"+s, subst(regex("a"), want))
		reads(t, "s/a/b/I"+s, subst(folded("a"), want))
		reads(t, "s/a/b/i"+s, subst(folded("a"), want))
		reads(t, "s/a/b/"+s+"\np", subst(regex("a"), want), api.Command{At: len(s) + 7, Name: 'p'})
	}
	reads(t, "s/a/b/gIp", subst(folded("a"), api.Subst{Pieces: []api.Piece{text("b")}, Global: true, Print: true}))
	reads(t, "{s/a/b/g }", api.Command{Name: '{'}, api.Command{At: 1, Name: 's', Regex: regex("a"), Subst: api.Subst{Pieces: []api.Piece{text("b")}, Global: true}}, api.Command{At: 9, Name: '}'})
}

// 13.1: y.
func TestTables(t *testing.T) {
	for s, want := range map[string][2]string{
		"///": {"", ""}, "/a/b/": {"a", "b"}, "/ab/ba/": {"ab", "ba"}, "/ab/cc/": {"ab", "cc"}, ",a\\,,bc,": {"a,", "bc"}, "/\\n\\\\\\//abc/": {"\n\\/", "abc"}, "/abc/\\n\\\\\\//": {"abc", "\n\\/"}, "n\\nnan": {"n", "a"}, ";a;b;": {"a", "b"}, " a b ": {"a", "b"}, "/&;/}#/": {"&;", "}#"}, "/\x00/\xff/": {"\x00", "\xff"}, "&a&\\&&": {"a", "&"},
	} {
		reads(t, "y"+s, api.Command{Name: 'y', Text: want[0], Other: want[1]})
		reads(t, "y"+s+" ;p", api.Command{Name: 'y', Text: want[0], Other: want[1]}, api.Command{At: len(s) + 3, Name: 'p'})
	}
	var all []byte
	for b := range 256 {
		if c := byte(b); c == '\n' {
			all = append(all, "\\n"...)
		} else if c == '\\' || c == '/' {
			all = append(all, '\\', c)
		} else {
			all = append(all, c)
		}
	}
	got := reeds.Read(t, "y/"+string(all)+"/"+string(all)+"/", false).Commands[0]
	if len(got.Text) != 256 || got.Other != got.Text {
		t.Error("a table of all bytes:", len(got.Text))
	}
}
