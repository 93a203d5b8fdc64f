package args_test

import (
	"math/rand"
	"regexp"
	"slices"
	"strconv"
	"strings"
	"testing"

	"paddock/api"
	"paddock/args"
)

var (
	letters = regexp.MustCompile(`(?s)^-([nErs]*)(?:([efi])(.*))?$`)
	longs   = regexp.MustCompile(`(?s)^--(?:(quiet|silent)|(regexp-extended)|(separate)|(in-place)(?:=(.*))?|(expression|file)=(.*))$`)
)

// plain is a second reading of a command line.
type plain struct {
	x    api.Argv
	done int
}

// inPlace edits in place, if the suffix may be.
func (p *plain) inPlace(suffix string) bool {
	p.x.Options.InPlace, p.x.Options.Separate, p.x.Options.Suffix = true, true, suffix
	return len(suffix) <= 255 && strings.Count(suffix, "/") == 0 && strings.Count(suffix, "\x00") == 0
}

func (p *plain) flags(s string) {
	p.x.Options.Quiet = p.x.Options.Quiet || strings.Contains(s, "n")
	p.x.Options.Extended = p.x.Options.Extended || strings.Contains(s, "E") || strings.Contains(s, "r")
	p.x.Options.Separate = p.x.Options.Separate || strings.Contains(s, "s")
}

func (p *plain) long(s string) bool {
	m := longs.FindStringSubmatch(s)
	if m == nil {
		return false
	}
	p.flags(map[bool]string{true: "n"}[m[1] != ""] + map[bool]string{true: "E"}[m[2] != ""] + map[bool]string{true: "s"}[m[3] != ""])
	if m[6] != "" {
		p.x.Scripts = append(p.x.Scripts, api.Source{File: m[6] == "file", Text: m[7]})
	}
	return m[4] == "" || p.inPlace(m[5])
}

// plainRead is a second reading of Read: the number of the argument at fault, or -1.
func plainRead(l []string) (api.Argv, int) {
	var p plain
	i := 0
	for i < len(l) && l[i] != "--" && l[i] != "-" && strings.HasPrefix(l[i], "-") {
		if strings.HasPrefix(l[i], "--") {
			if !p.long(l[i]) {
				return api.Argv{}, i
			}
			i++
			continue
		}
		m := letters.FindStringSubmatch(l[i])
		if m == nil {
			return api.Argv{}, i
		}
		p.flags(m[1])
		switch m[2] {
		case "i":
			if !p.inPlace(m[3]) {
				return api.Argv{}, i
			}
		case "e", "f":
			value := m[3]
			if value == "" {
				i++
				if i == len(l) {
					return api.Argv{}, i
				}
				value = l[i]
			}
			p.x.Scripts = append(p.x.Scripts, api.Source{File: m[2] == "f", Text: value})
		}
		i++
	}
	if i < len(l) && l[i] == "--" {
		i++
	}
	if p.x.Scripts == nil {
		if i == len(l) {
			return api.Argv{}, i
		}
		p.x.Scripts = []api.Source{{Text: l[i]}}
		i++
	}
	p.x.Names = l[i:]
	return p.x, -1
}

// holds holds Read against its second reading, and what it has read against Print.
func holds(t *testing.T, l []string) bool {
	t.Helper()
	x, why, at := args.Read(l)
	want, fault := plainRead(l)
	no := api.OK
	if fault >= 0 {
		no = api.ErrUsage
	}
	if show(x) != show(want) || why != no || at != max(fault, 0) {
		t.Fatalf("Read(%q) = %s, %d at %d, not %s, %d", l, show(x), why, at, show(want), fault)
	}
	if why != api.OK {
		return false
	}
	if !args.Right(x) {
		t.Fatalf("Read(%q) is not right", l)
	}
	back(t, x)
	return true
}

// back holds that a command line that is written is read as it was, and is written in one way.
func back(t *testing.T, x api.Argv) {
	t.Helper()
	l, why := args.Print(x)
	y, no, _ := args.Read(l)
	if why != api.OK || no != api.OK || !args.Same(x, y) {
		t.Fatalf("P26.5: Read(Print(%s)) = Read(%q) = %s", show(x), l, show(y))
	}
	if again, _ := args.Print(y); !slices.Equal(l, again) {
		t.Fatalf("P26.5: %s is written as %q and as %q", show(x), l, again)
	}
}

// P26.1, P26.5: all lists of up to three of these arguments, and longer ones by chance.
func TestLists(t *testing.T) {
	words := strings.Split("|-|--|---|p|n|-n|-E|-r|-s|-z|-ns|-nz|-e|-ep|-ne|-f|-fp|-i|-in|-i.b|-i/|-n-|-en|-if|--quiet|--quiet=|--silent|--silents|--regexp-extended|--separate|--expression|--expression=|--expression=p|--file|--file=q|--in-place|--in-place=|--in-place=b|--in-place=/|--in|--=|p\n", "|")
	read := 0
	holds(t, nil)
	for _, a := range words {
		holds(t, []string{a})
		for _, b := range words {
			holds(t, []string{a, b})
			for _, c := range words {
				if holds(t, []string{a, b, c}) {
					read++
				}
			}
		}
	}
	source := rand.New(rand.NewSource(261))
	for range 50000 {
		var l []string
		for range source.Intn(10) {
			l = append(l, words[source.Intn(len(words))])
		}
		if holds(t, l) {
			read++
		}
	}
	if read < 10000 {
		t.Error("only a few are read:", read)
	}
}

// P26.1, P26.5: arguments of any few bytes.
func TestBytes(t *testing.T) {
	const bytes = "--nErsefi=/x\x00\n \xff"
	source := rand.New(rand.NewSource(262))
	read := 0
	for range 200000 {
		var l []string
		for range 1 + source.Intn(4) {
			var s []byte
			for range source.Intn(5) {
				s = append(s, bytes[source.Intn(len(bytes))])
			}
			l = append(l, string(s))
		}
		if holds(t, l) {
			read++
		}
	}
	if read < 20000 {
		t.Error("only a few are read:", read)
	}
	for b := range 256 {
		holds(t, []string{"-" + string([]byte{byte(b)}), "p", "q"})
		holds(t, []string{"-i" + string([]byte{byte(b)}), "p", "q"})
		holds(t, []string{"--quiet" + string([]byte{byte(b)}), "p", "q"})
		holds(t, []string{string([]byte{byte(b)}) + "-n", "p", "q"})
	}
}

// P26.5, P26.2: command lines made by hand.
func TestThereAndBack(t *testing.T) {
	texts := []string{"", "p", "-", "--", "-n", "-e", "--quiet", "a\nb", "\x00/"}
	source := rand.New(rand.NewSource(263))
	for range 20000 {
		var x api.Argv
		o := &x.Options
		o.Quiet, o.Extended, o.Separate, o.InPlace = source.Intn(2) == 0, source.Intn(2) == 0, source.Intn(2) == 0, source.Intn(2) == 0
		o.Suffix = []string{"", "", "~", "-n", "=", "a/b", "\x00"}[source.Intn(7)]
		for range source.Intn(4) {
			x.Scripts = append(x.Scripts, api.Source{File: source.Intn(2) == 0, Text: texts[source.Intn(len(texts))]})
		}
		for range source.Intn(4) {
			x.Names = append(x.Names, texts[source.Intn(len(texts))])
		}
		right := x.Scripts != nil && o.Suffix != "a/b" && o.Suffix != "\x00" && (o.InPlace && o.Separate || !o.InPlace && o.Suffix == "")
		if args.Right(x) != right {
			t.Fatalf("Right(%s) = %v", show(x), args.Right(x))
		}
		if right {
			back(t, x)
			continue
		}
		if l, why := args.Print(x); l != nil || why != api.ErrUsage {
			t.Fatalf("Print(%s) = %q, %d", show(x), l, why)
		}
	}
}

// P26.6: letters in one argument, or in several; the order does not matter.
func TestLettersApart(t *testing.T) {
	const all = "nErs"
	for number := range 256 {
		var one string
		var several []string
		for i := range 4 {
			letter := all[number>>(2*i)&3:][:1]
			one += letter
			several = append(several, "-"+letter)
		}
		x, why, _ := args.Read([]string{"-" + one, "p", "x"})
		y, no, _ := args.Read(append(several, "p", "x"))
		slices.Reverse(several)
		z, none, _ := args.Read(append(several, "p", "x"))
		if why+no+none != api.OK || !args.Same(x, y) || !args.Same(x, z) {
			t.Errorf("P26.6: -%s: %s; %s; %s", one, show(x), show(y), show(z))
		}
	}
}

// P26.7: what stands behind -- is a name, or the script.
func TestOperands(t *testing.T) {
	words := []string{"", "-", "--", "-n", "-e", "-z", "--quiet", "--z", "-i/", "p"}
	for _, a := range words {
		for _, b := range words {
			for _, c := range words {
				rest := ", name " + strconv.Quote(b) + ", name " + strconv.Quote(c)
				reads(t, []string{"--", a, b, c}, "text "+strconv.Quote(a)+rest)
				reads(t, []string{"-n", "--", a, b, c}, "quiet, text "+strconv.Quote(a)+rest)
				reads(t, []string{"-fs", "--", a, b, c}, `file "s", name `+strconv.Quote(a)+rest)
				reads(t, []string{"x", a, b, c}, `text "x", name `+strconv.Quote(a)+rest)
			}
		}
	}
}

// P26.4: answers share nothing with what was handed in; that stays as it is, spare room too.
func TestMemory(t *testing.T) {
	mark := api.Source{Text: "mark"}
	for _, first := range [][]string{{"p"}, {"-ep"}, {"--"}, {"-n", "-e", "p", "-fq"}, {"-i.b", "--", "p"}, {"-z"}} {
		handed := append(append(slices.Clone(first), "x", "y"), "mark", "mark")
		l := handed[:len(handed)-2]
		was := slices.Clone(handed)
		x, _, _ := args.Read(l)
		want := show(x)
		_ = append(x.Names, "more")
		_ = append(x.Scripts, mark)
		if !slices.Equal(handed, was) {
			t.Fatalf("Read(%q) has changed what was handed in: %q", was, handed)
		}
		blot(handed)
		if show(x) != want {
			t.Errorf("Read(%q) keeps what was handed in", was)
		}
		blot(x.Names[:cap(x.Names)])
		if y, _, _ := args.Read(was[:len(was)-2]); show(y) != want {
			t.Errorf("Read(%q) is another one the second time", was)
		}
	}
	scripts := append([]api.Source{{Text: "p"}, {File: true, Text: "q"}}, mark)
	names := []string{"x", "y", "mark"}
	l, _ := args.Print(api.Argv{Scripts: scripts[:2], Names: names[:2]})
	want := strings.Join(l, " ")
	_ = append(l, "more")
	if scripts[2] != mark || !slices.Equal(names, []string{"x", "y", "mark"}) {
		t.Error("Print has changed what was handed in")
	}
	blot(names)
	if strings.Join(l, " ") != want {
		t.Error("Print keeps what was handed in")
	}
	files := []string{"f", "mark"}
	if s, why := args.Script(scripts[:2], files[:1]); s != "p\nf" || why != api.OK || files[0] != "f" || files[1] != "mark" || scripts[2] != mark {
		t.Error("Script:", s, files, scripts)
	}
}

// blot writes over a list.
func blot(l []string) {
	for i := range l {
		l[i] = "blot"
	}
}
