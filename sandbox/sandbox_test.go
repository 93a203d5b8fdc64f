package sandbox_test

import (
	"runtime"
	"slices"
	"strconv"
	"strings"
	"testing"

	"paddock/api"
	"paddock/marsh"
	"paddock/sandbox"
	"paddock/wood"
)

// small is a job as the chapter's examples have it: a folder d with the text f, and a text s; below d all may be done.
func small(s string, names ...string) api.Job {
	return api.Job{
		Script: s, Names: names,
		Tree:   wood.Root(wood.Dir("d", wood.Text("f", "a\nb\n")), wood.Text("s", "secret")),
		Policy: marsh.Within(wood.Paths("d"), wood.Paths("d"), 1000),
	}
}

// inPlace is the same job in place.
func inPlace(j api.Job, suffix string) api.Job {
	j.Options.InPlace, j.Options.Suffix = true, suffix
	return j
}

// failing is the same job; these calls fail.
func failing(j api.Job, faults ...int) api.Job {
	j.Faults = faults
	return j
}

// calls are the calls of a trace, but Lstats.
func calls(o api.Outcome) string {
	var words []string
	for _, c := range o.Trace {
		if c.Kind != api.CallLstat {
			words = append(words, marsh.ShowCall(c))
		}
	}
	return strings.Join(words, " ")
}

// told is what matters of most outcomes.
func told(o api.Outcome) string {
	return strings.Join([]string{strconv.Quote(o.Out), strconv.Itoa(o.Code), strconv.Itoa(int(o.Stop)), strconv.Itoa(int(o.Error)), o.Message}, " ")
}

// wants holds what came of a job, its calls but Lstats, and the texts that are not as they were.
func wants(t *testing.T, j api.Job, want, trace, changed string) {
	t.Helper()
	o := sandbox.Run(j)
	var words []string
	before := strings.Fields(wood.Texts(j.Tree))
	for _, x := range strings.Fields(wood.Texts(o.Tree)) {
		if !slices.Contains(before, x) {
			words = append(words, x)
		}
	}
	if told(o) != want || calls(o) != trace || strings.Join(words, " ") != changed || o.Why != api.OK {
		t.Errorf("%q of %.80q: %s\n%s\n%s\nnot %s\n%s\n%s", j.Script, j.Names, told(o), calls(o), strings.Join(words, " "), want, trace, changed)
	}
}

// The chapter's examples.
func TestExamples(t *testing.T) {
	o := sandbox.Run(small("s/a/x/", "d/f"))
	if got := marsh.ShowOutcome(o); got != "0 0 0 0 0 0 2 6 1 \"x\\nb\\n\" \"\"\nlog lstat/d/f read/d/f\ntrace lstat/d/f read/d/f\ntree "+wood.Show(small("").Tree) {
		t.Error("1:", got)
	}
	wants(t, inPlace(small("s/a/x/", "d/f"), ""), `"" 0 0 0 `, "read/d/f create/d/f.paddock~ append/d/f.paddock~ append/d/f.paddock~ rename/d/f.paddock~>/d/f", `/d/f="x\nb\n"`)
	wants(t, small("p", "s"), `"" 3 8 61 denied read "/s" prefix`, "", "")
	wants(t, small("w ../s", "d/f"), `"" 3 8 61 denied create "/s" prefix`, "", "")
	wants(t, small("e ls", "d/f"), `"" 3 2 61 denied exec "ls" command`, "read/d/f", "")
	little := small(":a;ba", "d/f")
	little.Policy.Fuel = 5
	wants(t, little, `"" 4 4 0 exhausted fuel`, "read/d/f", "")
	o = sandbox.Run(small("k"))
	if got := marsh.ShowOutcome(o); got != "130 0 1 1 0 0 0 0 0 \"\" \"script byte 0 rule 1\"\nlog\ntrace\ntree (0 \"\" \"\")" {
		t.Error("3:", got)
	}
	wants(t, small("p", "d/z"), `"" 2 0 0 `, "read/d/z=31", "")
	wants(t, failing(small("p", "d/f"), 1), `"" 5 9 42 failed read "/d/f" code 42`, "read/d/f=42", "")
}

// The document's examples of the whole.
func TestWholeExamples(t *testing.T) {
	read := "read/d/f"
	wants(t, small("r ../s", "d/f"), `"a\n" 3 8 61 denied read "/s" prefix`, read, "")
	linked := small("p", "d/l")
	linked.Tree = wood.Root(wood.Dir("d", wood.Text("f", "a\nb\n"), wood.Link("l", "/s")), wood.Text("s", "secret"))
	if o := sandbox.Run(linked); told(o) != `"" 3 8 61 denied read "/d/l" link` || len(o.Trace) != 1 || marsh.ShowCall(o.Trace[0]) != "lstat/d/l" {
		t.Error("3:", marsh.ShowOutcome(o))
	}
	wants(t, small("w d/o\ne ls", "d/f"), `"" 3 2 61 denied exec "ls" command`, "create/d/o read/d/f append/d/o", `/d/o="a\n"`)
	little := small(":a;G;h;ba", "d/f")
	little.Policy.Memory = 100
	wants(t, little, `"" 4 5 0 exhausted memory`, read, "")
	wants(t, inPlace(failing(small("p", "d/f"), 5), ""), `"" 5 9 42 failed append "/d/f.paddock~" code 42`, "read/d/f create/d/f.paddock~ append/d/f.paddock~=42", `/d/f.paddock~=""`)
	wants(t, small("1{p;p};b e;d;:e", "d/f"), `"a\na\na\nb\n" 0 0 0 `, read, "")
}

// 1: what is wrong with the job itself, the first thing of several; nothing is done.
func TestWrongJobs(t *testing.T) {
	steps := []struct {
		what    string
		upset   func(j *api.Job)
		message string
	}{
		{"policy", func(j *api.Job) { j.Policy.Fuel = -1 }, "job code 50"},
		{"names", func(j *api.Job) { j.Names = make([]string, api.MaxFiles+1) }, "job code 3"},
		{"tree", func(j *api.Job) { j.Tree.Name = "x" }, "job code 30"},
		{"gate", func(j *api.Job) { j.Policy.Read = append(slices.Clone(j.Policy.Read), api.Path{"link"}) }, "job code 60"},
		{"script", func(j *api.Job) { j.Script = "p\nx y" }, "script byte 4 rule 6"},
	}
	for number := 1; number < 1<<len(steps); number++ {
		j := small("p", "d/f")
		j.Tree.Files = append([]api.File{j.Tree.Files[0], wood.Link("link", "d")}, j.Tree.Files[1:]...)
		first := ""
		for i, s := range steps {
			if number>>i&1 == 1 {
				s.upset(&j)
				if first == "" {
					first = s.message
				}
			}
		}
		o := sandbox.Run(j)
		want := api.Outcome{Code: 1, Message: first, Why: o.Why}
		if first == steps[4].message {
			want.Flaw, want.Why = api.Flaw{At: 4, Rule: 6}, api.ErrScript
		}
		if !sandbox.Same(o, want) || o.Why == api.OK || first != "script byte 4 rule 6" && first != "job code "+strconv.Itoa(int(o.Why)) {
			t.Errorf("%b: %s, not %s", number, marsh.ShowOutcome(o), first)
		}
	}
}

// 1: the errors of each part, and limits: at them, and one past.
func TestJobErrors(t *testing.T) {
	for what, c := range map[string]struct {
		upset func(j *api.Job)
		why   api.Errno
	}{
		"Fuel at":                 {func(j *api.Job) { j.Policy.Fuel = api.MaxNumber }, api.OK},
		"Fuel past":               {func(j *api.Job) { j.Policy.Fuel = api.MaxNumber + 1 }, api.ErrPolicy},
		"Memory at":               {func(j *api.Job) { j.Policy.Memory = api.MaxMemory }, api.OK},
		"Memory past":             {func(j *api.Job) { j.Policy.Memory = api.MaxMemory + 1 }, api.ErrPolicy},
		"Memory below":            {func(j *api.Job) { j.Policy.Memory = -1 }, api.ErrPolicy},
		"Output at":               {func(j *api.Job) { j.Policy.Output = api.MaxQuota }, api.OK},
		"Output past":             {func(j *api.Job) { j.Policy.Output = api.MaxQuota + 1 }, api.ErrPolicy},
		"Each at":                 {func(j *api.Job) { j.Policy.Each = api.MaxQuota }, api.OK},
		"Each past":               {func(j *api.Job) { j.Policy.Each = api.MaxQuota + 1 }, api.ErrPolicy},
		"Each below":              {func(j *api.Job) { j.Policy.Each = -1 }, api.ErrPolicy},
		"prefixes at":             {func(j *api.Job) { j.Policy.Write = slices.Repeat(j.Policy.Write, api.MaxFiles) }, api.OK},
		"prefixes past":           {func(j *api.Job) { j.Policy.Write = slices.Repeat(j.Policy.Write, api.MaxFiles+1) }, api.ErrPolicy},
		"a prefix that is wrong":  {func(j *api.Job) { j.Policy.Read = []api.Path{{".."}} }, api.ErrPolicy},
		"names at":                {func(j *api.Job) { j.Names = slices.Repeat([]string{"-"}, api.MaxFiles) }, api.OK},
		"names past":              {func(j *api.Job) { j.Names = slices.Repeat([]string{"-"}, api.MaxFiles+1) }, api.ErrMany},
		"a tree without kind":     {func(j *api.Job) { j.Tree = api.File{} }, api.ErrTree},
		"a tree that is a text":   {func(j *api.Job) { j.Tree = api.File{Kind: api.FileText} }, api.ErrTree},
		"a name twice":            {func(j *api.Job) { j.Tree.Files = append(j.Tree.Files, wood.Text("s", "")) }, api.ErrTree},
		"a prefix that is a link": {func(j *api.Job) { j.Tree.Files = []api.File{wood.Link("d", "s")} }, api.ErrLink},
		"a script at":             {func(j *api.Job) { j.Script = "#" + strings.Repeat("x", api.MaxScript-1) }, api.OK},
		"a script past":           {func(j *api.Job) { j.Script = "#" + strings.Repeat("x", api.MaxScript) }, api.ErrLong},
		"an extended script":      {func(j *api.Job) { j.Script = "s/(a)/\\1/" }, api.ErrScript},
		"commands at":             {func(j *api.Job) { j.Script = strings.Repeat("z;", api.MaxCommand) }, api.OK},
		"commands past":           {func(j *api.Job) { j.Script = strings.Repeat("z;", api.MaxCommand+1) }, api.ErrScript},
		"blocks at":               {func(j *api.Job) { j.Script = strings.Repeat("{", api.MaxNest) + strings.Repeat("}", api.MaxNest) }, api.OK},
		"blocks past":             {func(j *api.Job) { j.Script = strings.Repeat("{", api.MaxNest+1) + strings.Repeat("}", api.MaxNest+1) }, api.ErrScript},
		"faults of all kinds":     {func(j *api.Job) { j.Faults = []int{-1, 1 << 62, 7, 7} }, api.OK},
	} {
		j := small("", "d/f")
		j.Policy.Fuel = 1e5
		c.upset(&j)
		o := sandbox.Run(j)
		if o.Why != c.why || o.Why == api.OK && o.Message != "" || o.Why != api.OK && (o.Code != 1 || len(o.Log)+len(o.Trace)+len(o.Tree.Files) > 0) || (o.Flaw != api.Flaw{}) != (o.Why == api.ErrScript) {
			t.Errorf("%s: %d, %q", what, o.Why, o.Message)
		}
	}
	j := small("s/(a)/\\1\\1/", "d/f")
	j.Options.Extended = true
	wants(t, j, `"aa\nb\n" 0 0 0 `, "read/d/f", "")
}

// 1, 2: files have one name each, however they are spelled; names that lead nowhere stay as they are told.
func TestNames(t *testing.T) {
	at := strings.Repeat("x", api.MaxName)
	for _, c := range []struct{ s, want, trace, changed string }{
		{"w d/o", `"a\nb\n" 0 0 0 `, "create/d/o read/d/f append/d/o append/d/o", `/d/o="a\nb\n"`},
		{"w d/o\nw /d/./o\nw d//o", `"a\nb\n" 0 0 0 `, "create/d/o read/d/f append/d/o append/d/o append/d/o append/d/o append/d/o append/d/o", `/d/o="a\na\na\nb\nb\nb\n"`},
		{"1!w d/y\n1W ../d/x\n1s/a/z/w d/z", `"z\nb\n" 0 0 0 `, "create/d/y create/d/x create/d/z read/d/f append/d/x append/d/z append/d/y", `/d/x="a\n" /d/y="b\n" /d/z="z\n"`},
		{"s/a/z/w d/q/../o\nw ./d/o", `"z\nb\n" 0 0 0 `, "create/d/o read/d/f append/d/o append/d/o append/d/o", `/d/o="z\nz\nb\n"`},
		// R goes on in one file, r reads what is written to it under another spelling
		{"w d/o\nR ./d/o\nR d/../d/o", `"a\na\nb\nb\n" 0 0 0 `, "create/d/o read/d/f append/d/o read/d/o read/d/o append/d/o read/d/o read/d/o", `/d/o="a\nb\n"`},
		{"1w /d/o\n$r d//o", `"a\nb\na\n" 0 0 0 `, "create/d/o read/d/f append/d/o read/d/o", `/d/o="a\n"`},
		// the standard output, as it is and in other spellings
		{"w /dev/stdout", `"a\na\nb\nb\n" 0 0 0 `, "read/d/f", ""},
		{"w dev/stdout\n2W /dev/./stdout\n1s/a/c/w ../dev//stdout", `"a\nc\nc\nb\nb\nb\n" 0 0 0 `, "read/d/f", ""},
		{"r dev/stdout", `"a\n" 3 8 61 denied read "/dev/stdout" prefix`, "read/d/f", ""},
		// such as are none
		{"w d/", `"" 3 8 61 denied create "d/" path`, "", ""},
		{"w d/o\nw d/.", `"" 3 8 61 denied create "d/." path`, "create/d/o", `/d/o=""`},
		{"w .", `"" 3 8 61 denied create "." path`, "", ""},
		{"w d/o\x00", `"" 3 8 61 denied create "d/o\000" path`, "", ""},
		{"W d/" + at, `"a\nb\n" 0 0 0 `, "create/d/" + at + " read/d/f append/d/" + at + " append/d/" + at, "/d/" + at + `="a\nb\n"`},
		{"W d/x" + at, `"" 3 8 61 denied create "d/x` + at + `" path`, "", ""},
		{"s/a/b/w d/o/..", `"" 3 8 61 denied create "d/o/.." path`, "", ""},
		{"r d/", `"a\n" 3 8 61 denied read "d/" path`, "read/d/f", ""},
		{"2R d/\x00", `"a\nb\n" 3 8 61 denied read "d/\000" path`, "read/d/f", ""},
		{"w d/none/o", `"" 5 9 31 failed create "/d/none/o" code 31`, "create/d/none/o=31", ""},
		{"w d/f/o", `"" 5 9 32 failed lstat "/d/f/o" code 32`, "", ""},
		{"w d/o\nw d/none/x\nw d/y", `"" 5 9 31 failed create "/d/none/x" code 31`, "create/d/o create/d/none/x=31", `/d/o=""`},
		{"r d/none", `"a\nb\n" 0 0 0 `, "read/d/f read/d/none=31 read/d/none=31", ""},
		{"r d/none/x", `"a\nb\n" 0 0 0 `, "read/d/f read/d/none/x=31 read/d/none/x=31", ""},
		{"r d/f/x", `"a\n" 5 9 32 failed lstat "/d/f/x" code 32`, "read/d/f", ""},
		{"r d", `"a\n" 5 9 40 failed read "/d" code 40`, "read/d/f read/d=40", ""},
		{"w d", `"" 5 9 40 failed create "/d" code 40`, "create/d=40", ""},
		// an input that is written is empty when it is read
		{"w d/f", `"" 0 0 0 `, "create/d/f read/d/f", `/d/f=""`},
	} {
		wants(t, small(c.s, "d/f"), c.want, c.trace, c.changed)
	}
}

// 1: a name of MaxPath bytes, that leads to a path of as many, or of one more.
func TestLongNames(t *testing.T) {
	deep := strings.Repeat("x/", 506)
	for _, c := range []struct{ name, want string }{
		{deep + "x/../" + strings.Repeat("y", 7), `failed create "/` + deep + `yyyyyyy" code 3`},
		{"/" + deep + strings.Repeat("y", 11), `failed create "/` + deep + `yyyyyyyyyyy" code 3`},
		{deep + strings.Repeat("y", 11), `failed create "/` + deep + `yyyyyyyyyyy" code 3`},
		{deep + strings.Repeat("y", 12), `denied create "` + deep + `yyyyyyyyyyyy" path`},
	} {
		j := small("w "+c.name, "d/f")
		j.Policy.Write = wood.Paths("/")
		if o := sandbox.Run(j); o.Message != c.want {
			t.Errorf("%d bytes: %q, not %q", len(c.name), o.Message, c.want)
		}
	}
}

// 3, 4: the inputs: names as they are told, the standard input, such as are not there; each is read when its first line is looked for.
func TestInputs(t *testing.T) {
	for _, c := range []struct{ s, names, want, trace string }{
		{"p", "", `"i\ni\nj\nj" 0 0 0 `, ""},
		{"F;=", "", `"-\n1\ni\n-\n2\nj" 0 0 0 `, ""},
		{"F;=", "d/f - ./d//f", `"d/f\n1\na\nd/f\n2\nb\n-\n3\ni\n-\n4\nj\n./d//f\n5\na\n./d//f\n6\nb\n" 0 0 0 `, "read/d/f read/d/f"},
		{"", "- -", `"i\nj\ni\nj" 0 0 0 `, ""},
		{"$=", "- d/f d/e", `"i\nj\na\n4\nb\n" 0 0 0 `, "read/d/f read/d/e"},
		{"", "./-", `"" 3 8 61 denied read "/-" prefix`, ""},
		{"", "d/z - d/y", `"i\nj" 2 0 0 `, "read/d/z=31 read/d/y=31"},
		{"q7", "- d/z", `"i\n" 7 1 0 `, ""},
		{"", "d/z/x -", `"i\nj" 2 0 0 `, "read/d/z/x=31"},
		{"", "d/f/x -", `"" 5 9 32 failed lstat "/d/f/x" code 32`, ""},
		{"", "d", `"" 5 9 40 failed read "/d" code 40`, "read/d=40"},
		{"", "d/", `"" 3 8 61 denied read "d/" path`, ""},
		{"", "- /s", `"i\n" 3 8 61 denied read "/s" prefix`, ""},
		{"w d/o", "- d/e /s", `"i\n" 3 8 61 denied read "/s" prefix`, "create/d/o append/d/o read/d/e"},
		{"q", "d/f /s", `"a\n" 0 1 0 `, "read/d/f"},
		// a file that is written is an input too: it is read when the line ahead of it is the last one of its input
		{"w d/o", "d/f d/o", `"a\nb\na\n" 0 0 0 `, "create/d/o read/d/f append/d/o read/d/o append/d/o append/d/o"},
		{"r d/e\nN", "d/f /s", `"" 3 8 61 denied read "/s" prefix`, "read/d/f read/d/e"},
		{"", "d/e", `"" 0 0 0 `, "read/d/e"},
	} {
		j := small(c.s, strings.Fields(c.names)...)
		j.Input = "i\nj"
		j.Tree.Files[0].Files = append([]api.File{wood.Text("e", "")}, j.Tree.Files[0].Files...)
		o := sandbox.Run(j)
		if told(o) != c.want || calls(o) != c.trace {
			t.Errorf("%q of %s: %s; %s", c.s, c.names, told(o), calls(o))
		}
	}
	j := small("p", "")
	wants(t, j, `"" 3 8 61 denied read "" path`, "", "")
	j.Names = []string{"\xff\n"}
	wants(t, j, `"" 3 8 61 denied read "/\377\n" prefix`, "", "")
}

// 3, 4: Separate, as the options say it: numbers, last lines, ranges and R's files.
func TestSeparate(t *testing.T) {
	j := small("=;$s/$/!/;1,/b/s/^/>/;R d/g", "d/f", "d/f")
	j.Tree.Files[0].Files = append(j.Tree.Files[0].Files, wood.Text("g", "1\n2\n3\n"))
	j.Script = "=;$s/$/!/;2,/c/s/^/>/\nR d/g"
	wants(t, j, `"1\na\n1\n2\n>b\n2\n3\n>a\n3\n4\n>b!\n" 0 0 0 `, "read/d/f read/d/g read/d/f read/d/g read/d/g read/d/g", "")
	j.Options.Separate = true
	wants(t, j, `"1\na\n1\n2\n>b!\n2\n1\na\n1\n2\n>b!\n2\n" 0 0 0 `, "read/d/f read/d/g read/d/f read/d/g read/d/g read/d/g", "")
}

// 25.3: what is handed in stays as it is, spare room too; answers are new memory.
func TestMemory(t *testing.T) {
	for _, suffix := range []string{"", "~"} {
		j := inPlace(small("w d/o\nr d/g\ns/a/x/", "d/f", "d/f", "-"), suffix)
		j.Tree.Files[0].Files = append(j.Tree.Files[0].Files, wood.Text("g", "1\n"), wood.Link("l", "/s"))
		j.Policy.Read, j.Policy.Write = wood.Roomy(j.Policy.Read), wood.Roomy(j.Policy.Write)
		j.Names = append(j.Names, "mark")[:3]
		j.Faults = append([]int{40, 99}, 0)[:2]
		was := wood.Show(j.Tree)
		o := sandbox.Run(j)
		want := marsh.ShowOutcome(o)
		if wood.Show(j.Tree) != was || !wood.Untouched(j.Policy.Read, wood.Paths("d")) || !wood.Untouched(j.Policy.Write, wood.Paths("d")) ||
			!slices.Equal(j.Names[:4], []string{"d/f", "d/f", "-", "mark"}) || !slices.Equal(j.Faults[:3], []int{40, 99, 0}) {
			t.Error("what was handed in has changed")
		}
		again := sandbox.Run(j)
		wood.Spoil(j.Tree)
		wood.BlotAll(j.Policy.Read)
		wood.BlotAll(j.Policy.Write)
		clear(j.Names[:4])
		if marsh.ShowOutcome(o) != want || !sandbox.Same(o, again) {
			t.Error("an outcome hangs on what was handed in:", marsh.ShowOutcome(o))
		}
		marsh.BlotOutcome(o)
		if marsh.ShowOutcome(again) != want {
			t.Error("two outcomes share memory:", marsh.ShowOutcome(again))
		}
		apart(t, again)
	}
}

// apart holds that no two lists of an outcome share memory: each is written over, and all others stay.
func apart(t *testing.T, o api.Outcome) {
	t.Helper()
	var lists []api.Path
	for _, e := range o.Log {
		lists = append(lists, e.Call.Path, e.Call.To)
	}
	for _, c := range o.Trace {
		lists = append(lists, c.Path, c.To)
	}
	for i, l := range lists {
		l = l[:cap(l)]
		was := slices.Clone(l)
		for k := range l {
			l[k] = "blot"
		}
		for k, m := range lists {
			if k != i && slices.Contains(m[:cap(m)], "blot") {
				t.Fatal("two lists of an outcome share memory")
			}
		}
		copy(l, was)
	}
}

// 25.3: no goroutine is left.
func TestGoroutines(t *testing.T) {
	before := runtime.NumGoroutine()
	for range 10 {
		sandbox.Run(inPlace(small("s/a/x/", "d/f"), ""))
		sandbox.Run(small("e ls", "d/f"))
	}
	if runtime.NumGoroutine() > before {
		t.Error("goroutines are left:", runtime.NumGoroutine()-before)
	}
}
