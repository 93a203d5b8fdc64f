package reeds

import (
	"slices"
	"strings"

	"paddock/api"
)

// grower writes a script's text by chance.
type grower struct {
	chance func(int) int
	labels []string // those that the script will have
	second bool     // a second address stands ahead
	out    strings.Builder
}

// Grow is the text of a script of some commands, right as a basic one and as an extended one, by a function that tells numbers below one by chance.
func Grow(chance func(int) int, commands int) string {
	g := &grower{chance: chance}
	for _, l := range []string{"a", "b c", "x#y", "\xff{"} {
		if chance(3) == 0 {
			g.labels = append(g.labels, l)
		}
	}
	g.put("", "", "", "#n\n", "#n\n", " ", "# x\n")
	at := make([]int, len(g.labels)) // the command ahead of which each label stands
	for i := range at {
		at[i] = chance(commands + 1)
	}
	nest := 0
	for i := range commands + 1 {
		for k, l := range g.labels {
			if at[k] == i {
				g.put(":", ": ")
				g.put(l)
				g.put("\n", ";", " ;", "\t\n")
			}
		}
		if i < commands {
			nest = g.command(nest)
		}
	}
	for range nest {
		g.put("}", "};", " }\n")
	}
	return g.out.String()
}

// put writes one of some texts.
func (g *grower) put(l ...string) { g.out.WriteString(l[g.chance(len(l))]) }

func (g *grower) blanks() { g.put("", "", "", "", " ", "\t ") }

// command writes one, and what ends it; how many blocks are open behind it.
func (g *grower) command(nest int) int {
	g.put("", "", "", " ", ";", "\n", "#{\n")
	if nest > 0 && g.chance(4) == 0 {
		g.put("}")
		g.put(";", "\n", " ;", "# x\n", " \n")
		return nest - 1
	}
	g.addresses()
	g.put("", "", "", "", "!", " ! ", "!\t")
	if nest < 5 && g.chance(6) == 0 {
		g.put("{", "{", "{ ", "{\n", "{;")
		return nest + 1
	}
	g.letter()
	return nest
}

func (g *grower) addresses() {
	g.second = false
	g.blanks()
	switch g.chance(5) {
	case 0:
		return
	case 1:
		g.second = true
		g.put("0")
		g.put(",", " , ", ",\t")
		g.regex()
		return
	}
	if g.chance(2) == 0 {
		g.put("1", "2", "007", "$", "0~3", "2~0", "1~2", "1073741824")
	} else {
		g.regex()
	}
	if g.chance(2) == 0 {
		g.second = true
		g.put(",", " , ", ",\t")
		if g.chance(3) == 0 {
			g.regex()
		} else {
			g.put("0", "3", "$", "+0", "+2", "~4", "~00", "+1073741824")
		}
	}
	g.blanks()
}

// regex writes an address that is an expression.
func (g *grower) regex() {
	g.put("//", "/a/", "/a/I", "/[ab]*c/", "/\\//", "/x\\n[^a]/I", "\\,a,", "\\,\\,a,I", "\\|a\\|b|", "\\xa\\xbx", "\\^\\^a^", "\\.\\..", "\\;\\;\\/;", "\\\x00a/\x00", "\\ a\\ I ", "/^$/", "/\xff\\\xff/", "\\]a\\]b]", "/\\\\\\//")
}

func (g *grower) letter() {
	ends := []string{"\n", ";", " ;", "\t\n", ";;", " # x\n"}
	switch g.chance(12) {
	case 0, 1:
		g.put("=", "d", "D", "F", "g", "G", "h", "H", "n", "N", "p", "P", "x", "z")
		g.put(ends...)
	case 2:
		g.put("l", "l0", "l 5", "l 1073741824", "l\t007")
		g.put(ends...)
	case 3:
		if g.second { // q and Q take none
			g.put("n", "N")
		} else {
			g.put("q", "Q", "q0", "Q 5", "q 255", "Q\t007")
		}
		g.put(ends...)
	case 4:
		g.lines()
	case 5, 6:
		g.put("b", "t", "T", "b ", "t\t")
		if len(g.labels) > 0 {
			g.put(g.labels...)
			g.put("", " ")
		}
		g.put("\n", ";")
	case 7:
		g.put("r", "R", "w", "W", "r ", "w\t")
		g.put("f", "a b ", "d/x;y", "}", "#", "\\", "\xff\x00")
		g.put("\n")
	case 8:
		g.put("e", "e ", "els", "e l;s }")
		g.put("\n")
	case 9:
		g.put("y///", "y/a/b/", "y/abc/\\n\\\\\\//", "y,\\,;a,b}\\n,", "ynan\\nn", "y/\xff/\x00/", "y a b ", "y/ab/ba/")
		g.put(ends...)
	default:
		g.subst()
	}
}

func (g *grower) lines() {
	g.put("a", "i", "c")
	if g.chance(2) == 0 {
		g.put("", " ", "\t")
		g.put("x", "x y;}", "x\\\ny", "x\\\\\\\n\\t", "#\xff\x00&/", "}\\a")
	} else {
		g.put("\\\n", "\\\n  ", "\\  ", "\\ \t\n", "\\", " \\\n")
		g.put("x", "x y;}", "\\  x", "\\\n", "x\\\ny", "\\\\", "x\\\\\\\n\\t", "#\xff\x00&/", "}\\a")
	}
	g.put("\n")
}

func (g *grower) subst() {
	by := []string{"/", ",", "|", "x", "\x00", " ", ";", "1", "n", "^", "&", "}", "#"}[g.chance(13)]
	g.put("s" + by)
	groups := ""
	for _, l := range []string{"a", "b*", "[cd]", "\\" + by, "\\.", "\\\\", "^", "$", "\xff", "0"} {
		if g.chance(3) == 0 && !strings.Contains(l, by) || l[1:] == by && g.chance(4) == 0 {
			groups += l
		}
	}
	g.put(groups + by)
	last := groups == ""
	for range g.chance(5) {
		l := []string{"t", "uv", "\\&", "\\\\", "\\\n", "\\n", "\\t", "\\U", "\\L", "\\u", "\\l", "\\E", "\\" + by, "\\q", "/\xff\x00", "\\a\\f\\v\\r", "\\0"}[g.chance(17)]
		if !strings.Contains(l, by) || l[1:] == by {
			g.put(l)
		}
		if by != "&" && g.chance(3) == 0 {
			g.put("&")
		}
		if last && g.chance(3) == 0 {
			g.put("\\2", "\\9")
		}
	}
	g.put(by)
	g.flags(last)
}

func (g *grower) flags(last bool) {
	flags := []string{"g", "p", "e", "2", "I"}
	if last {
		flags = flags[:4]
	}
	if g.chance(2) == 0 {
		slices.Reverse(flags)
	}
	for _, f := range flags {
		if g.chance(3) == 0 {
			g.put(f)
		}
	}
	if g.chance(4) == 0 {
		g.put("w f", "wf", "w a b;", "w }")
		g.put("\n")
		return
	}
	g.put("\n", ";", " ;", "\t\n", " # x\n")
}

// SpoilText changes some bytes of a script's text: most of what comes of it breaks a rule.
func SpoilText(chance func(int) int, s string) string {
	bytes := "\n\\;{}#!,/~+$01239&abcdefghilnpqrstvwxyzDEFGHILNPQRTUW=: \t|.[]*^()?\x00\xff"
	for range 1 + chance(3) {
		at := chance(len(s) + 1)
		c := bytes[chance(len(bytes)):][:1]
		switch chance(3) {
		case 0:
			s = s[:at] + c + s[at:]
		case 1:
			s = s[:at] + s[min(at+1, len(s)):]
		case 2:
			s = s[:at] + c + s[min(at+1, len(s)):]
		}
	}
	return s
}

// Spoil changes one field of one command, or which commands there are.
func Spoil(chance func(int) int, s *api.Script) {
	if len(s.Commands) == 0 {
		s.Commands = []api.Command{{Name: 'p'}}
		return
	}
	i := chance(len(s.Commands))
	c := &s.Commands[i]
	text := []string{"", "a", " a", "a ", "\n", "a\n", "a;b", "a}", "\t", "x\\", "ab", "\xff"}[chance(12)]
	number := []int{-2, -1, 0, 1, 9, 10, 255, 256, api.MaxNumber, api.MaxNumber + 1}[chance(10)]
	switch chance(14) {
	case 0:
		c.Name = "{}:=adbcDeFghGHilnNpPqQrRsStTwWxyzk#\x00"[chance(37)]
	case 1:
		c.At = chance(3) - 1
	case 2:
		c.Text = text
	case 3:
		c.Other = text
	case 4:
		c.N = number
	case 5:
		c.Not = !c.Not
	case 6, 7:
		spoilAddr(chance, &c.First, number, text)
	case 8:
		spoilAddr(chance, &c.Second, number, text)
	case 9:
		spoilRegex(chance, &c.Regex, text)
	case 10:
		spoilSubst(chance, &c.Subst, number, text)
	case 11:
		s.Commands = slices.Delete(s.Commands, i, i+1)
	case 12:
		s.Commands = slices.Insert(s.Commands, i, Clone(api.Script{Commands: s.Commands[chance(len(s.Commands)):][:1]}).Commands[0])
	case 13:
		s.Extended = !s.Extended
	}
}

func spoilAddr(chance func(int) int, a *api.Addr, number int, text string) {
	switch chance(5) {
	case 0:
		a.Kind = api.AddrKind(chance(int(api.AddrCount) + 2))
	case 1:
		a.N = number
	case 2:
		a.Step = number
	case 3:
		*a = api.Addr{Kind: api.AddrKind(chance(int(api.AddrCount))), N: max(0, min(number, api.MaxNumber))}
	case 4:
		spoilRegex(chance, &a.Regex, text)
	}
}

func spoilRegex(chance func(int) int, x *api.Regex, text string) {
	switch chance(5) {
	case 0:
		x.Last = !x.Last
	case 1:
		x.Fold = !x.Fold
	case 2:
		x.Text = text
	case 3:
		x.Root.Group = chance(2)
	case 4:
		*x = api.Regex{Last: true}
	}
}

func spoilSubst(chance func(int) int, s *api.Subst, number int, text string) {
	switch chance(7) {
	case 0:
		s.Number = number
	case 1:
		s.Global = !s.Global
	case 2:
		s.Print = !s.Print
	case 3:
		s.Exec = !s.Exec
	case 4:
		s.File = text
	case 5:
		s.Pieces = append(s.Pieces, api.Piece{Kind: api.PieceKind(chance(int(api.PieceCount) + 1)), N: number * chance(2), Text: text})
	case 6:
		if len(s.Pieces) > 0 {
			i := chance(len(s.Pieces))
			s.Pieces = slices.Delete(s.Pieces, i, i+1)
		}
	}
}
