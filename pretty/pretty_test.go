package pretty_test

import (
	"slices"
	"strings"
	"testing"

	"paddock/api"
	"paddock/pretty"
	"paddock/reeds"
	"paddock/script"
	"paddock/syntax"
)

// formats tells whether a text is written anew as another one, which is written as itself.
func formats(t *testing.T, s, want string) {
	t.Helper()
	for _, text := range []string{s, want} {
		if got, why, flaw := pretty.Format(text, false); got != want || why != api.OK || flaw != (api.Flaw{}) {
			t.Errorf("Format(%q) = %q, %d, %v; not %q", text, got, why, flaw, want)
		}
	}
}

// P14.3, examples 1 to 4.
func TestExamples(t *testing.T) {
	formats(t, "1,3 p;# x\n/a/ ! { s|/|x|g ; }", "1,3p\n/a/!{\ns/\\//x/g\n}\n")
	formats(t, "", "")
	formats(t, "#n\np", "#n\np\n")
	formats(t, "s|a\\/b|c|", "s\x00a\\/b\x00c\x00\n")
	formats(t, "s|a/b|c|", "s/a\\/b/c/\n")
	formats(t, "a  x", "a\\\nx\n")
	formats(t, "y,a\\,,bc,", "y/a,/bc/\n")
	formats(t, "s,\\(x\\),[&]\\n\\U\\1,2w f", "s/\\(x\\)/[&]\\n\\U\\1/2w f\n")
	formats(t, "\\,a,p", "/a/p\n")
	for s, want := range map[string]api.Flaw{"p x": {At: 2, Rule: 6}, "s,x,[&]\\n\\U\\1,2w f": {At: 4, Rule: 16}, "{": {At: 0, Rule: 8}, "k": {At: 0, Rule: 1}} {
		if got, why, flaw := pretty.Format(s, false); got != "" || why != api.ErrScript || flaw != want {
			t.Errorf("Format(%q) = %q, %d, %v; not %v", s, got, why, flaw, want)
		}
	}
}

// P14.2, P14.3: addresses.
func TestAddresses(t *testing.T) {
	for s, want := range map[string]string{
		"007p": "7p", "$p": "$p", "01 ~ 02p": "", "01~02p": "1~2p", "0~0p": "0~0p", "1 , +03p": "1,+3p", "1,~04!p": "1,~4!p", "$,0p": "$,0p", "0,/x/Ip": "0,/x/Ip", "//p": "//p", "\\,,p": "//p", "//,//p": "//,//p", "! p": "!p", "1073741824p": "1073741824p",
		"/a\\/b/p": "/a\\/b/p", "\\,a/b,p": "/a\\/b/p", "\\|a\\|b|p": "/a[|]b/p", "\\,a\\,b,p": "/a,b/p", "/[/]/p": "", "/[\\/]/p": "/[\\/]/p", "\\,[/],Ip": "/[\\/]/Ip", "/\\\\\\//p": "/\\\\\\//p", "\\,\\\\/,p": "/\\\\\\//p", "\\,a\\nb,p": "/a\\nb/p", "/a b;}#/p": "/a b;}#/p",
		"\\,a\\/,p": "\\\x00a\\/\x00p", "\\,a\\/,Ip": "\\\x00a\\/\x00Ip", "\\,a\\/\x00,p": "\\\x00a\\/\\\x00\x00p", "\\,\\/\\\x00,p": "\\\x01\\/\\\x00\x01p", "\\,\\/\\\x00\\\x02,p": "\\\x01\\/\\\x00\\\x02\x01p", "\\,\\/,,/a/p": "\\\x00\\/\x00,\\\x00a\x00p", "/a/,\\,\\/,p": "\\\x00a\x00,\\\x00\\/\x00p", "//,\\,\\/,p": "\\\x00\x00,\\\x00\\/\x00p", "\\,\\/,,$p": "\\\x00\\/\x00,$p",
		"\\,\\/,s/a/b/": "\\\x00\\/\x00s\x00a\x00b\x00", "/a/s,\\/,/\x00,g": "\\\x00a\x00s\x00\\/\x00/\\\x00\x00g", "\\,\\/,s///": "\\\x00\\/\x00s\x00\x00\x00", "\\,\\/,y/a/b/": "\\\x00\\/\x00y/a/b/",
	} {
		if want != "" {
			formats(t, s, want+"\n")
		} else if _, why, _ := pretty.Format(s, false); why != api.ErrScript {
			t.Errorf("Format(%q): %d", s, why)
		}
	}
}

// P14.2, P14.3: what letters take.
func TestLetters(t *testing.T) {
	for _, name := range strings.Split("=dDFgGhHnNpPxz", "") {
		formats(t, name, name+"\n")
		formats(t, " 1 ! "+name+" ;", "1!"+name+"\n")
	}
	for s, want := range map[string]string{
		"l": "l\n", "l 0": "l0\n", "l 007": "l7\n", "q": "q\n", "q 0": "q0\n", "Q\t255": "Q255\n", "1q": "1q\n",
		": a b ;b a b": ":a b\nba b\n", ":x;{t x}": ":x\n{\ntx\n}\n", "b;t;T": "b\nt\nT\n", ":a}": ":a}\n", ":a\nTa": ":a\nTa\n",
		"r  f g": "rf g\n", "R f": "Rf\n", "w f;}": "wf;}\n", "W\tf ": "Wf \n", "e": "e\n", "e  ls ": "els \n",
		"a x": "a\\\nx\n", "i\\\n  x\\\ny": "i\\\n  x\\\ny\n", "c\\  x\\\\y": "c\\\n  x\\\\y\n", "a\\\n\\\n": "a\\\n\\\n\n", "a x\\": "a\\\nx\\\\\n", "a x\\ty/&": "a\\\nxty/&\n", "$!{a x\n}": "$!{\na\\\nx\n}\n", "a x\np": "a\\\nx\np\n",
		"y///": "y///\n", "y,/\\\\\\n,abc,": "y/\\/\\\\\\n/abc/\n", "y,abc,/\\\\\\n,": "y/abc/\\/\\\\\\n/\n", "y;a;\\;;": "y/a/;/\n", "y/&./ab/": "y/&./ab/\n",
		"s///": "s///\n", "s,a,b,": "s/a/b/\n", "s,a,b/c,": "s/a/b\\/c/\n", "s,a,\\,\\&\\\\,": "s/a/,\\&\\\\/\n", "s/a/\\\n/": "s/a/\\n/\n", "s/a/\\t\\a/": "s/a/\t\a/\n", "s/a/\\0&/": "s/a/&&/\n", "s//\\9\\1/": "s//\\9\\1/\n", "s/a/\\U\\L\\u\\l\\E\\x/": "s/a/\\U\\L\\u\\l\\Ex/\n", "s|a|\\||": "s/a/|/\n", "s/a/;}#|/": "s/a/;}#|/\n", "snan\\nn": "s/a/n/\n",
		"s/a/b/w f": "s/a/b/w f\n", "s/a/b/wf ;": "s/a/b/w f ;\n", "s/a/b/w f\np": "s/a/b/w f\np\n", "s/a/b/2": "s/a/b/2\n", "s/a/b/02iepgw f": "s/a/b/gpeI2w f\n", "s/a/b/ieg": "s/a/b/geI\n", "s/a/b/p1": "s/a/b/p1\n", "s/a/b/I": "s/a/b/I\n", "s/a/b/1073741824": "s/a/b/1073741824\n",
		"{;}": "{\n}\n", "{{p}}": "{\n{\np\n}\n}\n", "#n": "#n\n", "#n\n": "#n\n", "#n\n{}": "#n\n{\n}\n", "# n\np": "p\n", " #n\np": "p\n", "p;;p": "p\np\n",
	} {
		formats(t, s, want)
	}
	// Extended.
	if got, why, _ := pretty.Format("s,(a|/)+,\\1/,", true); got != "s/(a|\\/)+/\\1\\//\n" || why != api.OK {
		t.Errorf("extended: %q, %d", got, why)
	}
	if got, why, flaw := pretty.Format("s,(a,x,", true); got != "" || why != api.ErrScript || flaw != (api.Flaw{At: 2, Rule: 3}) {
		t.Errorf("extended, wrong: %q, %d, %v", got, why, flaw)
	}
}

// P14.1: of any command.
func TestDelimiter(t *testing.T) {
	with := func(first, second, own string) api.Command {
		return api.Command{Name: 's', First: api.Addr{Regex: api.Regex{Text: first}}, Second: api.Addr{Regex: api.Regex{Text: second}}, Regex: api.Regex{Text: own}}
	}
	pairsOf := func(from, to int) string {
		out := ""
		for b := from; b <= to; b++ {
			out += "\\" + string([]byte{byte(b)})
		}
		return out
	}
	for _, c := range []struct {
		c    api.Command
		want byte
		ok   bool
	}{
		{api.Command{}, '/', true}, {with("a", "b", "c"), '/', true}, {with("/", "/", "a/b"), '/', true}, {with("\\\\/", "", ""), '/', true}, {with("", "", "\\"), '/', true}, {with("/\\", "", ""), '/', true}, {with("\\,\\;", "", "\\."), '/', true},
		{with("\\/", "", ""), 0, true}, {with("", "\\/", ""), 0, true}, {with("", "", "\\/"), 0, true}, {with("", "", "\\\\\\/"), 0, true}, {with("\\/", "\\\x00", ""), 1, true}, {with("\\\x00", "\\\x01", "\\/"), 2, true}, {with("\x00", "\x01", "\\/"), 0, true}, {with("\\\\\x00", "", "\\/"), 0, true},
		{with("\\/", pairsOf(0, 8), ""), 9, true}, {with("\\/", pairsOf(0, 9), ""), 11, true}, {with("\\/", pairsOf(0, 31), ""), ' ', true}, {with("\\/", pairsOf(0, 32), ""), '!', true}, {with("\\/", pairsOf(0, '!'), ""), '"', true}, {with("\\/", pairsOf(0, '"'), ""), '#', true}, {with("\\/", pairsOf(0, '#'), ""), '%', true}, {with("\\/", pairsOf(0, '%'), ""), '\'', true}, {with("\\/", pairsOf(0, '\''), ""), ',', true}, {with("\\/", pairsOf(0, ','), ""), '-', true}, {with("\\/", pairsOf(0, '-'), ""), ':', true}, {with("\\/", pairsOf(0, ':'), ""), ';', true}, {with("\\/", pairsOf(0, ';'), ""), '<', true}, {with("\\/", pairsOf(0, '>'), ""), '@', true}, {with("\\/", pairsOf(0, '@'), ""), ']', true}, {with("\\/", pairsOf(0, ']'), ""), '_', true}, {with("\\/", pairsOf(0, '_'), ""), '`', true}, {with("\\/", pairsOf(0, '`'), ""), '~', true}, {with("\\/", pairsOf(0, '~'), ""), 127, true}, {with("\\/", pairsOf(0, 254), ""), 255, true}, {with("\\/", pairsOf(0, 255), ""), 0, false}, {with("", pairsOf(0, 100), pairsOf(101, 255)), 0, false},
		// No text of an expression: that of Last, and what else a command has.
		{api.Command{Regex: api.Regex{Last: true, Text: "\\/"}}, '/', true}, {api.Command{First: api.Addr{Regex: api.Regex{Last: true, Text: "\\/"}}, Second: api.Addr{Regex: api.Regex{Last: true, Text: "\\/"}}}, '/', true}, {api.Command{Text: "\\/", Other: "\\/", Subst: api.Subst{File: "\\/", Pieces: []api.Piece{{Text: "\\/"}}}}, '/', true}, {api.Command{Name: 'k', Regex: api.Regex{Text: "\\/"}}, 0, true}, {api.Command{Regex: api.Regex{Text: "\\/", Fold: true}}, 0, true},
	} {
		if got, ok := pretty.Delimiter(c.c); got != c.want || ok != c.ok {
			t.Errorf("Delimiter of %q: %q, %v; not %q, %v", textsOf(c.c), got, ok, c.want, c.ok)
		}
	}
}

// all are pairs of a backslash and each byte that an expression may have behind it.
func all() string {
	out := ""
	for b := range 256 {
		s := "\\" + string([]byte{byte(b)})
		if _, why, _ := syntax.Parse(s, true); why == api.OK && b != '\n' {
			out += s
		}
	}
	return out
}

// P14.2: errors, and which comes first.
func TestErrors(t *testing.T) {
	root, _, _ := syntax.Parse(all(), true)
	none := api.Command{Name: 'p', First: api.Addr{Kind: api.AddrRegex, Regex: api.Regex{Text: all(), Root: root}}}
	p := api.Command{Name: 'p'}
	long := api.Command{Name: 'a', Text: strings.Repeat("x", api.MaxScript) + "\n"}
	wrong := api.Command{Name: 'k'}
	for i, c := range []struct {
		l    []api.Command
		want api.Errno
	}{
		{[]api.Command{p}, api.OK}, {[]api.Command{wrong}, api.ErrScript}, {[]api.Command{none}, api.ErrCannot}, {[]api.Command{p, none, p}, api.ErrCannot}, {[]api.Command{long}, api.ErrLong}, {[]api.Command{long, none}, api.ErrCannot}, {[]api.Command{none, long}, api.ErrCannot}, {[]api.Command{long, none, wrong}, api.ErrScript}, {[]api.Command{long, wrong}, api.ErrScript}, {[]api.Command{{Name: '{'}}, api.ErrScript}, {[]api.Command{{Name: 'b', Text: "x"}}, api.ErrScript}, {slices.Repeat([]api.Command{p}, api.MaxCommand+1), api.ErrScript},
	} {
		got, why := pretty.Print(api.Script{Commands: c.l, Extended: true})
		if why != c.want || (got == "") != (why != api.OK) {
			t.Errorf("case %d: %.40q, error %d, not %d", i, got, why, c.want)
		}
	}
	if _, why := pretty.Print(api.Script{Commands: []api.Command{none}}); why != api.ErrScript {
		t.Error("an extended one as a basic one:", why)
	}
	if got, why, flaw := pretty.Format("\\ x"+strings.ReplaceAll(all(), "\\ ", "")+" p", true); got != "\\ x"+strings.ReplaceAll(all(), "\\ ", "")+" p\n" || why != api.OK || flaw != (api.Flaw{}) {
		t.Errorf("one byte is left: %q, %d, %v", got, why, flaw)
	}
}

// P14.2, P14.3: MaxScript bytes, and one more.
func TestLong(t *testing.T) {
	for _, quiet := range []bool{false, true} {
		room := api.MaxScript - len("a\\\n\n")
		if quiet {
			room -= len("#n\n")
		}
		for _, s := range []string{strings.Repeat("x", room), strings.Repeat("\\", room/2) + strings.Repeat("x", room%2), strings.Repeat("\n", room/2) + strings.Repeat("x", room%2)} {
			at := api.Script{Commands: []api.Command{{Name: 'a', Text: s + "\n"}}, Quiet: quiet}
			got, why := pretty.Print(at)
			if len(got) != api.MaxScript || why != api.OK {
				t.Errorf("at MaxScript: %d bytes, error %d", len(got), why)
			}
			back, why, _ := script.Parse(got, false)
			if why != api.OK || !script.Same(back, at) {
				t.Errorf("at MaxScript, read: error %d", why)
			}
			past := api.Script{Commands: []api.Command{{Name: 'a', Text: "x" + s + "\n"}}, Quiet: quiet}
			if got, why := pretty.Print(past); got != "" || why != api.ErrLong {
				t.Errorf("past MaxScript: %d bytes, error %d", len(got), why)
			}
			short := api.Script{Commands: []api.Command{{Name: 'a', Text: s[1:] + "\n"}, {Name: 'p'}}, Quiet: quiet}
			if got, why := pretty.Print(short); (why != api.OK || len(got) > api.MaxScript) && why != api.ErrLong || got == "" && why == api.OK {
				t.Errorf("two commands: %d bytes, error %d", len(got), why)
			}
		}
	}
	// What is read may be too long to be written: each / needs a backslash here.
	s := "s&a&" + strings.Repeat("/", api.MaxScript/2) + "&"
	if got, why, flaw := pretty.Format(s, false); got != "" || why != api.ErrLong || flaw != (api.Flaw{}) {
		t.Errorf("Format: %d bytes, error %d, %v", len(got), why, flaw)
	}
	if got, why, flaw := pretty.Format(strings.Repeat(";", api.MaxScript+1), false); got != "" || why != api.ErrLong || flaw != (api.Flaw{}) {
		t.Errorf("Format of too long a text: %d bytes, error %d, %v", len(got), why, flaw)
	}
	// Commands one by one, up to the limit.
	l := slices.Repeat([]api.Command{{Name: 'w', Text: "12345678901234"}}, api.MaxCommand)
	if got, why := pretty.Print(api.Script{Commands: l}); len(got) != api.MaxScript || why != api.OK {
		t.Errorf("4096 lines of 16 bytes: %d, error %d", len(got), why)
	}
	if got, why := pretty.Print(api.Script{Commands: l, Quiet: true}); got != "" || why != api.ErrLong {
		t.Errorf("and #n: %d, error %d", len(got), why)
	}
}

// P14.4: what is handed in stays as it is.
func TestMemory(t *testing.T) {
	s := reeds.Roomy(reeds.Read(t, "#n\n\\,\\/,,/\\(a\\)*/Is/\\(b\\)/x&\\1\\U/2w f\n", false))
	want := reeds.Show(s)
	pretty.Print(s)
	pretty.Delimiter(s.Commands[0])
	if reeds.Show(s) != want || !reeds.Untouched(s) {
		t.Error("the script has changed")
	}
}
