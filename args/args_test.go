package args_test

import (
	"slices"
	"strconv"
	"strings"
	"testing"

	"paddock/api"
	"paddock/args"
)

// show tells all of a command line; nil and empty lists are alike.
func show(x api.Argv) string {
	o := x.Options
	var out []string
	for _, f := range []struct {
		word string
		told bool
	}{{"quiet", o.Quiet}, {"extended", o.Extended}, {"separate", o.Separate}, {"in-place", o.InPlace}} {
		if f.told {
			out = append(out, f.word)
		}
	}
	if o.Suffix != "" {
		out = append(out, "suffix "+strconv.Quote(o.Suffix))
	}
	for _, s := range x.Scripts {
		word := "text "
		if s.File {
			word = "file "
		}
		out = append(out, word+strconv.Quote(s.Text))
	}
	for _, name := range x.Names {
		out = append(out, "name "+strconv.Quote(name))
	}
	return strings.Join(out, ", ")
}

// reads holds what arguments say.
func reads(t *testing.T, l []string, want string) {
	t.Helper()
	x, why, at := args.Read(l)
	if got := show(x); got != want || why != api.OK || at != 0 {
		t.Errorf("Read(%.200q) = %.200s, %d at %d, not %.200s", l, got, why, at, want)
	}
}

// faults holds which argument is at fault.
func faults(t *testing.T, l []string, number int) {
	t.Helper()
	x, why, at := args.Read(l)
	if show(x) != "" || why != api.ErrUsage || at != number {
		t.Errorf("Read(%.200q) = %.200s, %d at %d, not at %d", l, show(x), why, at, number)
	}
}

// The chapter's examples.
func TestExamples(t *testing.T) {
	for s, want := range map[string]string{
		"-n p f":             `quiet, text "p", name "f"`,
		"-ne p f":            `quiet, text "p", name "f"`,
		"-nep f":             `quiet, text "p", name "f"`,
		"p":                  `text "p"`,
		"-i.bak -e p -e q x": `separate, in-place, suffix ".bak", text "p", text "q", name "x"`,
		"-in p":              `separate, in-place, suffix "n", text "p"`,
		"--in-place= p":      `separate, in-place, text "p"`,
		"p -n":               `text "p", name "-n"`,
		"-- -n":              `text "-n"`,
		"- x":                `text "-", name "x"`,
	} {
		reads(t, strings.Fields(s), want)
	}
	for s, number := range map[string]int{"": 0, "-n": 1, "-e": 1, "-i/x p": 0, "-z p": 0, "--quiet=1 p": 0, "--file p": 0} {
		faults(t, strings.Fields(s), number)
	}
	x, _, _ := args.Read([]string{"-n", "p", "f"})
	if l, why := args.Print(x); strings.Join(l, " ") != "-n -e p -- f" || why != api.OK {
		t.Error("Print:", l, why)
	}
	if s, why := args.Script([]api.Source{{Text: "p"}, {File: true, Text: "file"}, {Text: "q"}}, []string{"d"}); s != "p\nd\nq" || why != api.OK {
		t.Errorf("Script: %q, %d", s, why)
	}
}

// P26.1: each option, by its letters and by its long names (P26.8).
func TestOptions(t *testing.T) {
	for _, c := range []struct{ same, want string }{
		{"-n --quiet --silent -nn", `quiet`},
		{"-E -r --regexp-extended -Er -rE", `extended`},
		{"-s --separate -ss", `separate`},
		{"-i --in-place --in-place= -si", `separate, in-place`},
		{"-is=i --in-place=s=i", `separate, in-place, suffix "s=i"`},
		{"-i.bak --in-place=.bak -si.bak", `separate, in-place, suffix ".bak"`},
		{"-i* --in-place=*", `separate, in-place, suffix "*"`},
		{"-i=x --in-place==x", `separate, in-place, suffix "=x"`},
		{"-nEs -sEn -nrs", `quiet, extended, separate`},
		{"-nEi -Eni -rni", `quiet, extended, separate, in-place`},
		{"-nEi-n", `quiet, extended, separate, in-place, suffix "-n"`},
	} {
		for _, s := range strings.Fields(c.same) {
			reads(t, []string{s, "p"}, c.want+`, text "p"`)
			reads(t, []string{s, "-ep"}, c.want+`, text "p"`)
			reads(t, []string{"--", s, "p"}, "text "+strconv.Quote(s)+`, name "p"`)
		}
	}
	for _, c := range []struct{ same, want string }{
		{"-ep|--expression=p|-e\x01p", `text "p"`},
		{"-e\x01|--expression=", `text ""`},
		{"-e=p|--expression==p|-e\x01=p", `text "=p"`},
		{"-e-n|--expression=-n|-e\x01-n", `text "-n"`},
		{"-e--|--expression=--|-e\x01--", `text "--"`},
		{"-e-|--expression=-|-e\x01-", `text "-"`},
		{"-e--file=x|-e\x01--file=x", `text "--file=x"`},
		{"-enEs|-e\x01nEs", `text "nEs"`},
		{"-fp|--file=p|-f\x01p", `file "p"`},
		{"-f\x01|--file=", `file ""`},
		{"-fe|-f\x01e", `file "e"`},
		{"-nep|-ne\x01p|-n\x01-e\x01p|-n\x01--expression=p", `quiet, text "p"`},
		{"-nrsfx|-nEsf\x01x", `quiet, extended, separate, file "x"`},
		{"-ep\x01-fq|--expression=p\x01--file=q|-e\x01p\x01-f\x01q", `text "p", file "q"`},
		{"-fq\x01-ep\x01-f\x01q", `file "q", text "p", file "q"`},
		{"-ip\x01-e\x01-i", `separate, in-place, suffix "p", text "-i"`},
	} {
		for _, s := range strings.Split(c.same, "|") {
			l := strings.Split(s, "\x01")
			reads(t, l, c.want)
			for _, rest := range [][]string{{"x"}, {"-"}, {"-", "-n"}, {"x", "--", "-n", "-e"}, {""}} {
				var names []string
				for _, name := range rest {
					names = append(names, "name "+strconv.Quote(name))
				}
				want := c.want + ", " + strings.Join(names, ", ")
				reads(t, append(slices.Clone(l), rest...), want)
				reads(t, append(append(slices.Clone(l), "--"), rest...), want)
			}
			reads(t, append(slices.Clone(l), "--"), c.want)
			reads(t, append(slices.Clone(l), "--", "--", "-n"), c.want+`, name "--", name "-n"`)
		}
	}
}

// P26.1: of several -i the last one says the suffix; Separate stays.
func TestLastSuffix(t *testing.T) {
	reads(t, []string{"-i.a", "-i.b", "p"}, `separate, in-place, suffix ".b", text "p"`)
	reads(t, []string{"-i.a", "-i", "p"}, `separate, in-place, text "p"`)
	reads(t, []string{"-i.a", "--in-place", "p"}, `separate, in-place, text "p"`)
	reads(t, []string{"-s", "--in-place=.b", "-n", "p"}, `quiet, separate, in-place, suffix ".b", text "p"`)
	faults(t, []string{"-i/", "-i.b", "p"}, 0)
}

// P26.1: arguments that are at fault, the first one from the left.
func TestFaults(t *testing.T) {
	for _, c := range []struct {
		l      string
		number int
	}{
		{"-z", 0}, {"-nz p", 0}, {"-n -z p", 1}, {"-n- p", 0}, {"-n= p", 0}, {"-N p", 0}, {"-R p", 0}, {"-S p", 0}, {"-I p", 0}, {"-\xff p", 0}, {"-n\x00 p", 0}, {"-\u00e9 p", 0},
		{"--z", 0}, {"--z p", 0}, {"--quie p", 0}, {"--quiets p", 0}, {"--Quiet p", 0}, {"--n p", 0}, {"--e=p", 0}, {"--= p", 0}, {"--=p", 0}, {"--- p", 0}, {"---quiet p", 0}, {"--silent,quiet p", 0},
		{"--quiet= p", 0}, {"--silent=x p", 0}, {"--regexp-extended= p", 0}, {"--separate=1 p", 0}, {"--quiet=quiet p", 0},
		{"--expression p", 0}, {"--file p", 0}, {"--expression", 0}, {"-n --file", 1},
		{"-ia/b p", 0}, {"-i/ p", 0}, {"--in-place=/ p", 0}, {"-i\x00 p", 0}, {"--in-place=a\x00 p", 0}, {"-ni/x p", 0},
		{"-e", 1}, {"-f", 1}, {"-ne", 1}, {"-n -e", 2}, {"-ep -f", 2}, {"-e p -e", 3}, {"-i -ne", 2}, {"-sf", 1},
		{"-n", 1}, {"--", 1}, {"-n --", 2}, {"-i", 1}, {"-n -E -s", 3}, {"--quiet --", 2},
		{"-z -e", 0}, {"-e -z -y", 2}, {"-e p -z -i/ -e", 2}, {"-i/ -z", 0}, {"-n --file -e", 1}, {"-ez -fz -z", 2},
	} {
		faults(t, strings.Fields(c.l), c.number)
	}
	faults(t, nil, 0)
	faults(t, []string{"-e", "-z", "- z", "- "}, 2)
	faults(t, []string{"--quiet silent", "p"}, 0)
	faults(t, []string{"-n p"}, 0)
	reads(t, []string{""}, `text ""`)
	reads(t, []string{"", "-z"}, `text "", name "-z"`)
}

// P26.1, P26.2: a suffix of MaxName bytes, and one more.
func TestLongSuffix(t *testing.T) {
	at := strings.Repeat("x", api.MaxName)
	for _, option := range []string{"-i", "-ni", "--in-place="} {
		x, why, _ := args.Read([]string{option + at, "p"})
		if x.Options.Suffix != at || why != api.OK {
			t.Error(option, "a suffix of MaxName bytes:", why)
		}
		if l, why := args.Print(x); why != api.OK || !slices.Contains(l, "-i"+at) {
			t.Error(option, "a suffix of MaxName bytes:", why)
		}
		faults(t, []string{"-n", option + at + "x", "p"}, 1)
		x.Options.Suffix += "x"
		if l, why := args.Print(x); args.Right(x) || l != nil || why != api.ErrUsage {
			t.Error("Print of a suffix that is too long:", why)
		}
	}
	reads(t, []string{"-i", "-e", at + "x"}, "separate, in-place, text "+strconv.Quote(at+"x"))
}

// P26.1, P26.2: MaxArgs arguments, and one more.
func TestManyArguments(t *testing.T) {
	many := func(n int, l ...string) []string {
		for len(l) < n {
			l = append(l, "x")
		}
		return l
	}
	for _, first := range [][]string{{"p"}, {"--"}, {"-n", "-ep"}} {
		x, why, at := args.Read(many(api.MaxArgs, first...))
		if why != api.OK || at != 0 || len(x.Scripts) != 1 {
			t.Error("MaxArgs arguments:", why, at)
		}
		x, why, at = args.Read(many(api.MaxArgs+1, first...))
		if show(x) != "" || why != api.ErrMany || at != 0 {
			t.Error("more than MaxArgs arguments:", why, at)
		}
	}
	if x, why, at := args.Read(many(api.MaxArgs+1, "-z")); show(x) != "" || why != api.ErrMany || at != 0 {
		t.Error("too many arguments, and one at fault:", why, at)
	}
	faults(t, many(api.MaxArgs, "-n", "-z"), 1)

	options := api.Options{Quiet: true, Extended: true, Separate: true}
	for _, pieces := range []int{1, 2, (api.MaxArgs - 4) / 2} {
		x := api.Argv{Options: options, Scripts: slices.Repeat([]api.Source{{Text: "p"}}, pieces), Names: many(api.MaxArgs - 4 - 2*pieces)}
		l, why := args.Print(x)
		if why != api.OK || len(l) != api.MaxArgs {
			t.Error("Print of MaxArgs arguments:", why, len(l))
		}
		if y, why, _ := args.Read(l); why != api.OK || !args.Same(x, y) {
			t.Error("P26.5 of MaxArgs arguments:", why)
		}
		x.Names = append(x.Names, "x")
		if l, why := args.Print(x); l != nil || why != api.ErrMany {
			t.Error("Print of more than MaxArgs arguments:", why, len(l))
		}
		x.Options.Quiet = false
		if l, why := args.Print(x); len(l) != api.MaxArgs || why != api.OK {
			t.Error("Print of one option less:", why, len(l))
		}
		x.Options.Suffix = "x"
		if l, why := args.Print(x); l != nil || why != api.ErrUsage {
			t.Error("Print of what is not right, and too much:", why, len(l))
		}
	}
}

// P26.2: what is right, what is printed.
func TestPrint(t *testing.T) {
	text, file := api.Source{Text: "p"}, api.Source{File: true, Text: "s"}
	for _, c := range []struct {
		x    api.Argv
		want string
	}{
		{api.Argv{}, "no"},
		{api.Argv{Names: []string{"x"}}, "no"},
		{api.Argv{Scripts: []api.Source{text}}, "-e|p|--"},
		{api.Argv{Scripts: []api.Source{{}}}, "-e||--"},
		{api.Argv{Scripts: []api.Source{file, text, file}, Names: []string{"", "-n", "--", "-"}}, "-f|s|-e|p|-f|s|--||-n|--|-"},
		{api.Argv{Options: api.Options{Quiet: true}, Scripts: []api.Source{text}}, "-n|-e|p|--"},
		{api.Argv{Options: api.Options{Extended: true}, Scripts: []api.Source{text}}, "-E|-e|p|--"},
		{api.Argv{Options: api.Options{Separate: true}, Scripts: []api.Source{text}}, "-s|-e|p|--"},
		{api.Argv{Options: api.Options{InPlace: true}, Scripts: []api.Source{text}}, "no"},
		{api.Argv{Options: api.Options{Suffix: "x"}, Scripts: []api.Source{text}}, "no"},
		{api.Argv{Options: api.Options{Separate: true, Suffix: "x"}, Scripts: []api.Source{text}}, "no"},
		{api.Argv{Options: api.Options{InPlace: true, Suffix: "x"}, Scripts: []api.Source{text}}, "no"},
		{api.Argv{Options: api.Options{Separate: true, InPlace: true}, Scripts: []api.Source{text}}, "-i|-e|p|--"},
		{api.Argv{Options: api.Options{Separate: true, InPlace: true, Suffix: ".b"}, Scripts: []api.Source{text}}, "-i.b|-e|p|--"},
		{api.Argv{Options: api.Options{Separate: true, InPlace: true, Suffix: "a/b"}, Scripts: []api.Source{text}}, "no"},
		{api.Argv{Options: api.Options{Separate: true, InPlace: true, Suffix: "\x00"}, Scripts: []api.Source{text}}, "no"},
		{api.Argv{Options: api.Options{Separate: true, InPlace: true, Suffix: "\n- "}, Scripts: []api.Source{text}}, "-i\n- |-e|p|--"},
		{api.Argv{Options: api.Options{Separate: true, InPlace: true, Suffix: "x"}}, "no"},
		{api.Argv{Options: api.Options{Quiet: true, Extended: true, Separate: true, InPlace: true, Suffix: "x"}, Scripts: []api.Source{file}, Names: []string{"y"}}, "-n|-E|-ix|-f|s|--|y"},
		{api.Argv{Options: api.Options{Quiet: true, Extended: true, Separate: true}, Scripts: []api.Source{file}, Names: []string{"y"}}, "-n|-E|-s|-f|s|--|y"},
	} {
		l, why := args.Print(c.x)
		got, no := strings.Join(l, "|"), api.OK
		if c.want == "no" {
			c.want, no = "", api.ErrUsage
		}
		if got != c.want || why != no || args.Right(c.x) != (no == api.OK) || (l == nil) != (no != api.OK) {
			t.Errorf("Print(%s) = %q, %d; right: %v", show(c.x), got, why, args.Right(c.x))
		}
	}
}

// P26.2: each field counts, nothing else does.
func TestSame(t *testing.T) {
	var all []api.Argv
	for _, o := range []api.Options{{}, {Quiet: true}, {Extended: true}, {Separate: true}, {InPlace: true}, {Suffix: "x"}, {Suffix: "y"}} {
		for _, scripts := range [][]api.Source{nil, {}, {{}}, {{File: true}}, {{Text: "x"}}, {{}, {}}, {{Text: "x"}, {}}, {{}, {Text: "x"}}} {
			for _, names := range [][]string{nil, {}, {""}, {"x"}, {"x", "y"}, {"y", "x"}} {
				all = append(all, api.Argv{Options: o, Scripts: scripts, Names: names})
			}
		}
	}
	for _, a := range all {
		for _, b := range all {
			if args.Same(a, b) != (show(a) == show(b)) {
				t.Fatalf("Same(%s, %s) = %v", show(a), show(b), args.Same(a, b))
			}
		}
	}
}

// P26.3: as many files as pieces with File; P26.9: parts.
func TestScript(t *testing.T) {
	text := func(s string) api.Source { return api.Source{Text: s} }
	file := api.Source{File: true, Text: "no text of the script"}
	for _, c := range []struct {
		l     []api.Source
		files []string
		want  string
		why   api.Errno
	}{
		{nil, nil, "", api.OK},
		{nil, []string{""}, "", api.ErrRange},
		{[]api.Source{text("p")}, nil, "p", api.OK},
		{[]api.Source{text("p")}, []string{""}, "", api.ErrRange},
		{[]api.Source{file}, nil, "", api.ErrRange},
		{[]api.Source{file}, []string{"p\n"}, "p\n", api.OK},
		{[]api.Source{file}, []string{"p", "q"}, "", api.ErrRange},
		{[]api.Source{text(""), text("")}, nil, "\n", api.OK},
		{[]api.Source{file, text("p"), file}, []string{"a", "b\nc"}, "a\np\nb\nc", api.OK},
		{[]api.Source{file, text("p"), file}, []string{"a"}, "", api.ErrRange},
		{[]api.Source{file, text("p"), file}, []string{"a", "b", "c"}, "", api.ErrRange},
		{[]api.Source{text("a\\"), text("x\x00\xff")}, []string{}, "a\\\nx\x00\xff", api.OK},
	} {
		if s, why := args.Script(c.l, c.files); s != c.want || why != c.why {
			t.Errorf("Script(%v, %q) = %q, %d, not %q, %d", c.l, c.files, s, why, c.want, c.why)
		}
	}
	for number := range 1 << 8 {
		var l []api.Source
		var files []string
		for i := range 4 {
			l = append(l, api.Source{File: number>>i&1 == 1, Text: strconv.Itoa(i)})
			if l[i].File {
				files = append(files, "file "+strings.Repeat("\n", number>>4&3))
			}
		}
		whole, why := args.Script(l, files)
		for cut := 1; cut < 4; cut++ {
			n := 0
			for _, s := range l[:cut] {
				if s.File {
					n++
				}
			}
			a, no := args.Script(l[:cut], files[:n])
			b, none := args.Script(l[cut:], files[n:])
			if a+"\n"+b != whole || why+no+none != api.OK {
				t.Errorf("P26.9: %q and %q are not %q", a, b, whole)
			}
		}
	}
}
