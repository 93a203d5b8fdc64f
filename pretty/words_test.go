package pretty_test

import (
	"bytes"
	"fmt"
	"regexp"
	"strings"

	"paddock/api"
	"paddock/reeds"
)

// A second writing of scripts, by the words of the chapter. Texts have a rune for each byte in it, so that forms see bytes.

// pair is a backslash and the byte behind it, or a byte.
var pair = regexp.MustCompile(`(?s)\\.|.`)

// delimiter is that of some texts: each byte is tried, / first.
func delimiter(texts ...string) (string, bool) {
	inPair := func(by byte) bool {
		for _, s := range texts {
			for _, p := range pair.FindAllString(reeds.Wide(s), -1) {
				if reeds.Narrow(p) == "\\"+string([]byte{by}) {
					return true
				}
			}
		}
		return false
	}
	if !inPair('/') {
		return "/", true
	}
	for b := range 256 {
		by := byte(b)
		if bytes.IndexByte([]byte("abcdefghijklmnopqrstuvwxyzABCDEFGHIJKLMNOPQRSTUVWXYZ0123456789\x0a\\&.[*$+?(){}|^"), by) < 0 && !inPair(by) {
			return string([]byte{by}), true
		}
	}
	return "", false
}

func textsOf(c api.Command) (out []string) {
	for _, x := range []api.Regex{c.First.Regex, c.Second.Regex, c.Regex} {
		if !x.Last {
			out = append(out, x.Text)
		}
	}
	return out
}

// between is an expression with the delimiters around it.
func between(x api.Regex, by string) string {
	return by + reeds.Narrow(pair.ReplaceAllStringFunc(reeds.Wide(x.Text), func(p string) string {
		if reeds.Narrow(p) == by {
			return "\\" + p
		}
		return p
	})) + by
}

func address(a api.Addr, by string) string {
	switch a.Kind {
	case api.AddrLine:
		return fmt.Sprint(a.N)
	case api.AddrLast:
		return "$"
	case api.AddrStep:
		return fmt.Sprintf("%d~%d", a.N, a.Step)
	case api.AddrPlus:
		return fmt.Sprintf("+%d", a.N)
	case api.AddrMultiple:
		return fmt.Sprintf("~%d", a.N)
	case api.AddrRegex:
		return map[bool]string{false: "\\"}[by == "/"] + between(a.Regex, by) + map[bool]string{true: "I"}[a.Regex.Fold]
	}
	return ""
}

// written is a right script, as it is written; false: a command has no delimiter.
func written(s api.Script) (string, bool) {
	out := map[bool]string{true: "#n\n"}[s.Quiet]
	for _, c := range s.Commands {
		by, ok := delimiter(textsOf(c)...)
		if !ok {
			return "", false
		}
		out += address(c.First, by)
		if c.Second.Kind != api.AddrNone {
			out += "," + address(c.Second, by)
		}
		out += map[bool]string{true: "!"}[c.Not] + string([]byte{c.Name}) + taken(c, by) + "\n"
	}
	return out, true
}

// taken is what stands behind a letter, up to the last LF.
func taken(c api.Command, by string) string {
	switch c.Name {
	case 'l', 'q', 'Q':
		return strings.TrimPrefix(fmt.Sprint(c.N), "-1")
	case ':', 'b', 't', 'T', 'r', 'R', 'w', 'W', 'e':
		return c.Text
	case 'a', 'i', 'c':
		return "\\\n" + strings.NewReplacer("\\", "\\\\", "\n", "\\\n").Replace(c.Text[:len(c.Text)-1])
	case 'y':
		marks := strings.NewReplacer("\\", "\\\\", "/", "\\/", "\n", "\\n")
		return "/" + marks.Replace(c.Text) + "/" + marks.Replace(c.Other) + "/"
	case 's':
		out := between(c.Regex, by)
		for _, p := range c.Subst.Pieces {
			switch p.Kind {
			case api.PieceText:
				out += strings.NewReplacer("\\", "\\\\", "&", "\\&", by, "\\"+by, "\n", "\\n").Replace(p.Text)
			case api.PieceGroup:
				out += strings.Replace(fmt.Sprintf("\\%d", p.N), "\\0", "&", 1)
			default:
				out += "\\" + "ULulE"[p.Kind-api.PieceUpper:][:1]
			}
		}
		out += by
		for _, f := range []struct {
			set  bool
			name string
		}{{c.Subst.Global, "g"}, {c.Subst.Print, "p"}, {c.Subst.Exec, "e"}, {c.Regex.Fold, "I"}, {c.Subst.Number != 0, fmt.Sprint(c.Subst.Number)}, {c.Subst.File != "", "w " + c.Subst.File}} {
			if f.set {
				out += f.name
			}
		}
		return out
	}
	return ""
}
