package script_test

import (
	"fmt"
	"regexp"
	"slices"
	"strconv"
	"strings"
	"unicode/utf8"

	"paddock/api"
	"paddock/nfa"
	"paddock/posix"
	"paddock/reeds"
	"paddock/syntax"
)

// told is a second reading of a script, by the words of the chapter: a regular expression for each thing that may stand somewhere. Its text has a rune for each byte, so that these see bytes.
type told struct {
	rest     string
	at       int
	extended bool
	out      []api.Command
	open     []int
	begins   []int // where commands begin
}

var forms = map[string]*regexp.Regexp{}

// eat takes what a form has at this place, and tells its parts; nil, if it has nothing here.
func (o *told) eat(form string, bytes ...any) []string {
	form = "^(?:" + fmt.Sprintf(form, bytes...) + ")"
	if forms[form] == nil {
		forms[form] = regexp.MustCompile(form)
	}
	m := forms[form].FindStringSubmatch(o.rest)
	if m == nil {
		return nil
	}
	o.rest = o.rest[len(m[0]):]
	o.at += utf8.RuneCountInString(m[0])
	for i := range m {
		m[i] = reeds.Narrow(m[i])
	}
	return m
}

func wrong(rule, at int) { panic(api.Flaw{At: at, Rule: rule}) }

// value is that of digits; above all limits, if they are too many.
func value(s string) int {
	n, err := strconv.ParseUint(s, 10, 62)
	if err != nil {
		return 1 << 62
	}
	return int(n)
}

// reading is what the words say of a script's text.
func reading(s string, extended bool) (out api.Script, flaw api.Flaw) {
	defer func() {
		if f, ok := recover().(api.Flaw); ok {
			out, flaw = api.Script{}, f
		}
	}()
	o := &told{rest: reeds.Wide(s), extended: extended}
	o.all()
	return api.Script{Commands: o.out, Quiet: regexp.MustCompile(`^#n(\n|$)`).MatchString(strings.SplitAfter(s, "\n")[0]), Extended: extended}, api.Flaw{}
}

func (o *told) all() {
	skip := `(?:[ \t\n;]|#[^\n]*)*`
	for o.eat(skip); o.rest != ""; o.eat(skip) {
		o.begins = append(o.begins, o.at)
		o.command()
	}
	o.whole()
}

func (o *told) command() {
	begin := o.at
	var c api.Command
	c.First = o.address(`([0-9]+)(?:(~)([0-9]*))?`)
	if c.First.Kind != api.AddrNone {
		if o.eat(`[ \t]*,[ \t]*`) != nil {
			second := o.at
			c.Second = o.address(`([0-9]+)()()`)
			if m := o.eat(`([+~])([0-9]*)`); c.Second.Kind == api.AddrNone && m != nil {
				c.Second = api.Addr{Kind: map[string]api.AddrKind{"+": api.AddrPlus, "~": api.AddrMultiple}[m[1]], N: value(m[2])}
				if m[2] == "" || c.Second.N > api.MaxNumber {
					wrong(2, second)
				}
			} else if m != nil {
				wrong(1, o.at-len(m[0])) // a + or ~ behind an address is no letter
			}
			if c.Second.Kind == api.AddrNone {
				wrong(2, second)
			}
		}
		if c.First.Kind == api.AddrLine && c.First.N == 0 && c.Second.Kind != api.AddrRegex {
			wrong(2, begin)
		}
	}
	if o.eat(`[ \t]*!`) != nil {
		c.Not = true
		if o.eat(`[ \t]*!`) != nil {
			wrong(5, o.at-1)
		}
	}
	o.eat(`[ \t]*`)
	o.letter(&c)
	o.out = append(o.out, c)
}

func (o *told) address(number string) api.Addr {
	begin := o.at
	if m := o.eat(number); m != nil {
		a := api.Addr{Kind: api.AddrLine, N: value(m[1])}
		if m[2] != "" {
			a.Kind, a.Step = api.AddrStep, value(m[3])
		}
		if a.N > api.MaxNumber || a.Step > api.MaxNumber || m[2] != "" && m[3] == "" {
			wrong(2, begin)
		}
		return a
	}
	if o.eat(`\$`) != nil {
		return api.Addr{Kind: api.AddrLast}
	}
	m := o.eat(`(/)|\\((?s:.)?)`)
	if m == nil {
		return api.Addr{}
	}
	by, at := m[1]+m[2], o.at
	if by == "" || by == "\n" || by == "\\" {
		wrong(2, begin)
	}
	text := o.eat(`((?:\\[^\n]|[^\n\\%[1]s])*)%[1]s`, class(by))
	if text == nil {
		wrong(2, begin)
	}
	return api.Addr{Kind: api.AddrRegex, Regex: o.regex(text[1], by, at, o.eat(`I`) != nil)}
}

// class is a byte as a form has it, in a class or by itself.
func class(by string) string { return fmt.Sprintf(`\x{%x}`, by[0]) }

// regex reads an expression; of a broken rule 3 it is all one which, of all its causes.
func (o *told) regex(raw, by string, at int, fold bool) api.Regex {
	pair := regexp.MustCompile(`(?s)\\.`)
	text := reeds.Narrow(pair.ReplaceAllStringFunc(reeds.Wide(raw), func(p string) string {
		if reeds.Narrow(p)[1:] != by {
			return p
		}
		if strings.Contains(".[*$+?(){}|", by) {
			return reeds.Wide("[" + by + "]")
		}
		return reeds.Wide(strings.Repeat("\\", strings.Count(by, "^")) + by)
	}))
	if text == "" {
		if fold {
			wrong(3, at)
		}
		return api.Regex{Last: true}
	}
	root, why, _ := syntax.Parse(text, o.extended)
	_, many := nfa.Size(root)
	if why != api.OK || many != api.OK {
		wrong(3, at)
	}
	return api.Regex{Text: text, Fold: fold, Root: root}
}

func (o *told) end() {
	o.eat(`[ \t]*`)
	if o.rest != "" && strings.IndexByte("\n;}#", o.rest[0]) < 0 {
		wrong(6, o.at)
	}
}

func (o *told) letter(c *api.Command) {
	c.At = o.at
	m := o.eat(`[{}:=adbcDeFghGHilnNpPqQrRstTwWxyz]`)
	if m == nil {
		wrong(1, c.At)
	}
	c.Name = m[0][0]
	given, bare := c.First.Kind != api.AddrNone, c.Name == ':' || c.Name == '}'
	switch {
	case len(o.out) == 4096:
		wrong(20, c.At)
	case bare && (given || c.Not), (c.Name == 'q' || c.Name == 'Q') && c.Second.Kind != api.AddrNone:
		wrong(4, c.At)
	}
	switch c.Name {
	case '{':
		if o.open = append(o.open, c.At); len(o.open) > 64 {
			wrong(19, c.At)
		}
	case '}':
		if len(o.open) == 0 {
			wrong(7, c.At)
		}
		o.open = o.open[:len(o.open)-1]
		o.end()
	case 'l', 'q', 'Q':
		o.eat(`[ \t]*`)
		at := o.at
		m, most := o.eat(`[0-9]*`), map[byte]int{'l': api.MaxNumber, 'q': 255, 'Q': 255}[c.Name]
		if c.N = -1; m[0] != "" {
			c.N = value(m[0])
		}
		if c.N > most {
			wrong(18, at)
		}
		o.end()
	case 'a', 'i', 'c':
		o.lines(c)
	case ':':
		c.Text = o.label(`[^\n;]*`, false)
	case 'b', 't', 'T':
		c.Text = o.label(`[^\n;}]*`, true)
	case 'r', 'R', 'w', 'W':
		c.Text = o.file()
	case 'e':
		o.eat(`[ \t]*`)
		c.Text = o.eat(`[^\n]*`)[0]
	case 'y':
		o.table(c)
	case 's':
		o.subst(c)
	default:
		o.end()
	}
}

func (o *told) lines(c *api.Command) {
	o.eat(`[ \t]*`)
	if o.eat(`\\[ \t]*(?:\n|$)`) == nil {
		o.eat(`\\`)
	}
	m := o.eat(`(?:\\(?s:.)|[^\n\\])*(?:\\$)?`)
	if m[0] == "" {
		wrong(12, c.At)
	}
	c.Text = reeds.Narrow(regexp.MustCompile(`(?s)\\(.)`).ReplaceAllString(reeds.Wide(m[0]), "$1")) + "\n"
}

func (o *told) label(form string, mayBeEmpty bool) string {
	o.eat(`[ \t]*`)
	at := o.at
	name := o.eat(form)[0]
	for strings.HasSuffix(name, " ") || strings.HasSuffix(name, "\t") {
		name = name[:len(name)-1]
	}
	if len(name) > 64 || name == "" && !mayBeEmpty {
		wrong(9, at)
	}
	return name
}

func (o *told) file() string {
	o.eat(`[ \t]*`)
	at := o.at
	m := o.eat(`[^\n]*`)
	if m[0] == "" || len(m[0]) > 1024 {
		wrong(13, at)
	}
	return m[0]
}

// parts are the delimiter and two parts, with the places of these.
func (o *told) parts(c *api.Command, pair string) (by, first, second string, at [2]int) {
	if m := o.eat(`[^\n\\]`); m != nil {
		by = m[0]
		at[0] = o.at
		if m := o.eat(`((?:\\[^\n]|[^\n\\%[1]s])*)%[1]s`, class(by)); m != nil {
			at[1] = o.at
			if n := o.eat(`((?:`+pair+`|[^\n\\%[1]s])*)%[1]s`, class(by)); n != nil {
				return by, m[1], n[1], at
			}
		}
	}
	wrong(14, c.At)
	return
}

func (o *told) table(c *api.Command) {
	by, first, second, at := o.parts(c, `\\[^\n]`)
	side := func(s string, at int) string {
		out := ""
		for i := 0; i < len(s); i++ {
			if s[i] != '\\' {
				out += s[i : i+1]
				continue
			}
			i++
			switch s[i : i+1] {
			case "\\", by:
				out += s[i : i+1]
			case "n":
				out += "\n"
			default:
				wrong(17, at+i-1)
			}
		}
		return out
	}
	c.Text = side(first, at[0])
	c.Other = side(second, at[1])
	for i := range len(c.Text) {
		if strings.IndexByte(c.Text[i+1:], c.Text[i]) >= 0 {
			wrong(17, c.At)
		}
	}
	if len(c.Text) != len(c.Other) {
		wrong(17, c.At)
	}
	o.end()
}

func (o *told) subst(c *api.Command) {
	by, first, second, at := o.parts(c, `\\(?s:.)`)
	c.Regex = o.regex(first, by, at[0], false)
	c.Subst.Pieces = pieces(second, by)
	for _, p := range c.Subst.Pieces {
		if !c.Regex.Last && p.N > posix.Groups(c.Regex.Root) {
			wrong(16, at[1])
		}
	}
	stood := ""
	for {
		begin := o.at
		m := o.eat(`[gpeIiw]|[0-9]+`)
		if m == nil {
			break
		}
		name := m[0]
		switch name {
		case "g":
			c.Subst.Global = true
		case "p":
			c.Subst.Print = true
		case "e":
			c.Subst.Exec = true
		case "I", "i":
			name = "I"
			if c.Regex.Last {
				wrong(3, at[0])
			}
			c.Regex.Fold = true
		case "w":
			c.Subst.File = o.file()
			return
		default:
			name = "0"
			if c.Subst.Number = value(m[0]); c.Subst.Number > api.MaxNumber {
				wrong(18, begin)
			}
			if c.Subst.Number == 0 {
				wrong(15, begin)
			}
		}
		if strings.Contains(stood, name) {
			wrong(15, begin)
		}
		stood += name
	}
	o.end()
}

// pieces are those of a replacement: one for each pair first, then texts that stand side by side put together.
func pieces(s, by string) []api.Piece {
	var all []api.Piece
	turns := map[string]api.PieceKind{"U": api.PieceUpper, "L": api.PieceLower, "u": api.PieceFirst, "l": api.PieceSmall, "E": api.PieceEnd}
	bytes := map[string]string{"a": "\x07", "f": "\x0c", "n": "\x0a", "r": "\x0d", "t": "\x09", "v": "\x0b"}
	for s != "" {
		if s[0] != '\\' {
			if p := (api.Piece{Kind: api.PieceText, Text: s[:1]}); s[0] != '&' {
				all = append(all, p)
			} else {
				all = append(all, api.Piece{Kind: api.PieceGroup})
			}
			s = s[1:]
			continue
		}
		c := s[1:2]
		s = s[2:]
		switch {
		case c != by && turns[c] != 0:
			all = append(all, api.Piece{Kind: turns[c]})
		case c != by && c[0] >= '0' && c[0] <= '9':
			all = append(all, api.Piece{Kind: api.PieceGroup, N: int(c[0] - '0')})
		case c != by && bytes[c] != "":
			all = append(all, api.Piece{Kind: api.PieceText, Text: bytes[c]})
		default:
			all = append(all, api.Piece{Kind: api.PieceText, Text: c})
		}
	}
	for i := len(all) - 1; i > 0; i-- {
		if all[i].Kind == api.PieceText && all[i-1].Kind == api.PieceText {
			all[i-1].Text += all[i].Text
			all = slices.Delete(all, i, i+1)
		}
	}
	return all
}

func (o *told) whole() {
	if len(o.open) > 0 {
		wrong(8, o.open[0])
	}
	count := func(name string) (n int) {
		for _, c := range o.out {
			if c.Name == ':' && c.Text == name {
				n++
			}
		}
		return n
	}
	for i, c := range o.out {
		ahead := told{out: o.out[:i]}
		if c.Name == ':' && slices.ContainsFunc(ahead.out, func(a api.Command) bool { return a.Name == ':' && a.Text == c.Text }) {
			wrong(10, c.At)
		}
	}
	for _, c := range o.out {
		if strings.IndexByte("btT", c.Name) >= 0 && c.Text != "" && count(c.Text) == 0 {
			wrong(11, c.At)
		}
	}
}
