package farm_test

import (
	"math/rand"
	"slices"
	"strconv"
	"strings"
	"testing"

	"paddock/api"
	"paddock/farm"
	"paddock/lines"
	"paddock/marsh"
	"paddock/policy"
	"paddock/trees"
	"paddock/wood"
)

// show tells all of tasks; nil and empty lists are alike.
func show(l []api.Task) string {
	var out []string
	for _, x := range l {
		out = append(out, strconv.Quote(x.Name)+" "+marsh.ShowJob(x.Job))
	}
	return strings.Join(out, "\n")
}

// reads holds what a text says.
func reads(t *testing.T, s string, want ...api.Task) {
	t.Helper()
	l, why, fault := farm.Parse(s)
	if why != api.OK || fault != (api.Fault{}) || show(l) != show(want) {
		t.Errorf("Parse(%.200q) = %.400s, %d, %v, not %.400s", s, show(l), why, fault, show(want))
	}
}

// faults holds where a text is at fault.
func faults(t *testing.T, s string, line, rule int) {
	t.Helper()
	l, why, fault := farm.Parse(s)
	if why != api.ErrLine || fault != (api.Fault{Line: line, Rule: rule}) || len(l) > 0 {
		t.Errorf("Parse(%.200q) = %d tasks, %d, %v, not line %d, rule %d", s, len(l), why, fault, line, rule)
	}
}

// only is a task without anything but its name and what is done to its job.
func only(name string, does func(j *api.Job)) api.Task {
	x := api.Task{Name: name, Job: api.Job{Tree: wood.Root()}}
	if does != nil {
		does(&x.Job)
	}
	return x
}

// 29.3: what is taken: what is not told is nothing, and the tree a folder; lines in any order, the last one whole or not.
func TestParse(t *testing.T) {
	reads(t, "")
	reads(t, "\n# task \"a\"\n\n#\n")
	reads(t, "task \"a\"", only("a", nil))
	reads(t, "\n#\ntask \"a\"\n\n# script \"p\"\ntask \"b\"\n", only("a", nil), only("b", nil))
	reads(t, "task \"a\"\nscript \"p\\n\\\"\"", only("a", func(j *api.Job) { j.Script = "p\n\"" }))
	reads(t, "task \"a\"\ninput \"\\377\"", only("a", func(j *api.Job) { j.Input = "\xff" }))
	reads(t, "task \"a\"\nsuffix \"a/b\"", only("a", func(j *api.Job) { j.Options.Suffix = "a/b" }))
	reads(t, "task \"a\"\noption quiet", only("a", func(j *api.Job) { j.Options.Quiet = true }))
	reads(t, "task \"a\"\noption extended", only("a", func(j *api.Job) { j.Options.Extended = true }))
	reads(t, "task \"a\"\noption separate", only("a", func(j *api.Job) { j.Options.Separate = true }))
	reads(t, "task \"a\"\noption inplace", only("a", func(j *api.Job) { j.Options.InPlace = true }))
	reads(t, "task \"a\"\nname \"y\"\nname \"\"\nname \"y\"", only("a", func(j *api.Job) { j.Names = []string{"y", "", "y"} }))
	reads(t, "task \"a\"\nfault 7\nfault 0\nfault 7", only("a", func(j *api.Job) { j.Faults = []int{7, 0, 7} }))
	reads(t, "task \"a\"\nread \"/b/../c\"\neach 4\nread \"/c\"\nwrite \"/\"\nmemory 2\noutput 3\nfuel 1", only("a", func(j *api.Job) {
		j.Policy = api.Policy{Read: wood.Paths("c", "c"), Write: wood.Paths("/"), Fuel: 1, Memory: 2, Output: 3, Each: 4}
	}))
	reads(t, "task \"a\"\ndir \"/d\"\ntext \"/d/f\" \"x\\n\"\nlink \"/l\" \"d\"", only("a", func(j *api.Job) {
		j.Tree = wood.Root(wood.Dir("d", wood.Text("f", "x\n")), wood.Link("l", "d"))
	}))
	// in any order, those of the policy and of the tree among the others
	reads(t, "task \"a\"\ndir \"/d\"\nfault 1\nread \"/d\"\noption inplace\nlink \"/d/l\" \"x\"\nname \"n\"\nfuel 5\nsuffix \"~\"\ntext \"/e\" \"\"\noption quiet\nwrite \"/e\"\ninput \"i\"\nname \"m\"\nscript \"p\"\nfault 0", only("a", func(j *api.Job) {
		*j = api.Job{Script: "p", Input: "i", Options: api.Options{Quiet: true, InPlace: true, Suffix: "~"}, Names: []string{"n", "m"}, Faults: []int{1, 0},
			Policy: api.Policy{Read: wood.Paths("d"), Write: wood.Paths("e"), Fuel: 5}, Tree: wood.Root(wood.Dir("d", wood.Link("l", "x")), wood.Text("e", ""))}
	}))
	// each task has its own
	reads(t, "task \"a\"\nscript \"p\"\nfuel 1\ntext \"/f\" \"a\"\nfault 1\noption quiet\nname \"n\"\ntask \"b\"\nscript \"q\"\nfuel 2\ntext \"/f\" \"b\"\ntask \"c\"",
		only("a", func(j *api.Job) {
			*j = api.Job{Script: "p", Options: api.Options{Quiet: true}, Names: []string{"n"}, Faults: []int{1}, Policy: api.Policy{Fuel: 1}, Tree: wood.Root(wood.Text("f", "a"))}
		}),
		only("b", func(j *api.Job) {
			*j = api.Job{Script: "q", Policy: api.Policy{Fuel: 2}, Tree: wood.Root(wood.Text("f", "b"))}
		}), only("c", nil))
}

// 29.3: each rule, at its edges; of two that are broken the lesser one, of two lines the one ahead.
func TestParseFaults(t *testing.T) {
	nines := strings.Repeat("9", 400)
	// 1
	for _, s := range []string{"job", "task", "task\t\"a\"", "Task \"a\"", "tasks \"a\"", " task \"a\"", " ", "option", "fuel", "dir", "script\"p\"", "exec 1", "\x00", "fault", " # a", "names \"a\"", "names"} {
		faults(t, s, 1, 1)
		faults(t, "task \"x\"\n#\n"+s, 3, 1)
	}
	// 2
	for _, word := range []string{"script", "input", "suffix", "name"} {
		for _, rest := range []string{"", "a", "\"", "\"a", "\"a\" ", "\"a\"\"", " \"a\"", "'a'", "\"\t\"", "\"\\q\"", "\"a\"\r", "\"\\101\"", "\"\xff\""} {
			faults(t, word+" "+rest, 1, 2)
			faults(t, "task \"x\"\n"+word+" \"a\"\n"+word+" "+rest, 3, 2)
			faults(t, "task "+rest, 1, 2)
		}
	}
	for _, rest := range []string{"", "loud", "Quiet", "quiet ", " quiet", "\"quiet\"", "quie", "in-place", "quiet extended"} {
		faults(t, "option "+rest, 1, 2)
		faults(t, "task \"a\"\noption "+rest, 2, 2)
	}
	for _, rest := range []string{"", "-1", "+1", "01", "00", "1 ", " 1", "1a", "a", "0x1", "1_0", "\"1\"", "1.0", "-" + nines, "0" + nines, nines + "a"} {
		faults(t, "fault "+rest, 1, 2)
		faults(t, "task \"a\"\nfault 1\nfault "+rest, 3, 2)
	}
	// 3
	for _, s := range []string{"script \"p\"", "input \"\"", "suffix \"\"", "option quiet", "name \"n\"", "fault 0", "fault " + nines, "read \"/\"", "read x", "fuel x", "each 1", "memory -1", "dir \"/d\"", "dir x", "text \"/f\" \"\"", "link \"/l\" \"\"", "write ", "text "} {
		faults(t, "\n"+s+"\ntask \"a\"", 2, 3)
	}
	for s, line := range map[string]int{"task \"\"": 1, "task \"a\"\ntask \"a\"": 2, "task \"a\"\ntask \"b\"\nfuel 1\ntask \"a\"": 4, "task \"a\\n\"\n#\ntask \"a\\n\"": 3, "task \"a\"\ntask \"\"": 2} {
		faults(t, s, line, 3)
	}
	// 4
	for _, s := range []string{"script \"p\"", "input \"\"", "suffix \"\"", "option quiet", "option extended", "option separate", "option inplace"} {
		faults(t, "task \"a\"\n"+s+"\nname \"n\"\n"+s, 4, 4)
		faults(t, "task \"b\"\n"+s+"\ntask \"a\"\n"+s+"\n\n"+s, 6, 4)
		reads(t, strings.ReplaceAll("task \"a\"\ntask \"b\"\n", "\n", "\n"+s+"\n"), mustRead(t, "task \"a\"\n"+s)[0], mustRead(t, "task \"b\"\n"+s)[0])
	}
	faults(t, "task \"a\"\nscript \"p\"\nscript \"q\"", 3, 4)
	faults(t, "task \"a\"\nfault 1073741825", 2, 4)
	faults(t, "task \"a\"\nfault "+nines, 2, 4)
	faults(t, "task \"a\"\nfault 18446744073709551616", 2, 4)
	reads(t, "task \"a\"\nfault 1073741824", only("a", func(j *api.Job) { j.Faults = []int{api.MaxNumber} }))
	// 5
	for _, s := range []string{"fuel x", "fuel ", "fuel 01", "fuel 1073741825", "memory 1073741825", "each 4294967297", "read x", "read \"x\"", "write \"/\\000\"", "read \"\"", "dir x", "dir \"d\"", "dir \"/d\" ", "text \"/f\"", "text \"/x/f\" \"\"", "link \"/l\" \"\"", "dir \"/..\"", "dir \"/\""} {
		faults(t, "task \"a\"\n"+s, 2, 5)
		faults(t, "task \"a\"\noption quiet\n\n#\n"+s+"\njob", 5, 5)
	}
	faults(t, "task \"a\"\nfuel 1\ndir \"/d\"\nfuel 1", 4, 5)
	faults(t, "task \"a\"\ndir \"/d\"\nfuel 1\ndir \"/d\"", 4, 5)
	faults(t, "task \"a\"\ntext \"/d\" \"\"\nfuel 1\ntext \"/d/f\" \"\"", 4, 5)
	faults(t, "task \"a\"\nfuel 1\nfuel x\ndir \"/d\"\ndir \"/c\"", 3, 5)
	faults(t, "task \"a\"\ndir \"/d\"\ndir \"/c\"\nfuel 1\nfuel x", 3, 5)
	faults(t, "task \"a\"\nfuel 1\ntask \"b\"\nfuel 1\ntext \"/f\" \"\"\nfuel 1", 6, 5)
	// a line of a policy or a tree that is at fault stands ahead of what is wrong behind it, in whichever task
	for _, s := range []string{"job", "task \"\"", "task \"a\"", "task x", "script x", "script \"\"\nscript \"\"", "option loud", "fault 1073741825", "task \"b\"\njob", "task \"b\"\nfuel x"} {
		faults(t, "task \"a\"\nfuel 1\nfuel 1\n"+s, 3, 5)
		faults(t, "task \"a\"\ndir \"/d\"\ndir \"/a\"\n"+s, 3, 5)
	}
	faults(t, "task \"a\"\njob\nfuel x", 2, 1)
	faults(t, "task \"a\"\nscript x\nfuel x\ndir x", 2, 2)
}

// mustRead are the tasks of a right text.
func mustRead(t *testing.T, s string) []api.Task {
	t.Helper()
	l, why, fault := farm.Parse(s)
	if why != api.OK {
		t.Fatalf("Parse(%.200q): error %d, %v", s, why, fault)
	}
	return l
}

// 29.2, 29.3: the limits, at them and one past them.
func TestTextLimits(t *testing.T) {
	name := strings.Repeat("n", api.MaxName)
	reads(t, "task "+lines.Quote(name), only(name, nil))
	faults(t, "task "+lines.Quote(name+"n"), 1, 3)
	nulls := strings.Repeat("\x00", api.MaxName)
	reads(t, "task "+lines.Quote(nulls), only(nulls, nil))

	var all strings.Builder
	var want []api.Task
	for i := range api.MaxTasks {
		x := "t" + strconv.Itoa(i)
		all.WriteString("task \"" + x + "\"\n")
		want = append(want, only(x, nil))
	}
	reads(t, all.String(), want...)
	faults(t, all.String()+"fuel 1\ntask \"more\"", api.MaxTasks+2, 3)
	faults(t, all.String()+"task more", api.MaxTasks+1, 2)

	for word, rest := range map[string]string{"name": " \"n\"\n", "fault": " 1\n"} {
		s := "task \"a\"\n" + strings.Repeat(word+rest, api.MaxFiles)
		if x := mustRead(t, s)[0].Job; len(x.Names)+len(x.Faults) != api.MaxFiles {
			t.Error("MaxFiles of", word)
		}
		faults(t, s+word+rest, api.MaxFiles+2, 4)
		if l := mustRead(t, s+"task \"b\"\n"+word+rest); len(l) != 2 {
			t.Error("one more in another task of", word)
		}
	}
	prefixes := "task \"a\"\n" + strings.Repeat("read \"/a\"\nwrite \"/b\"\n", api.MaxFiles)
	if x := mustRead(t, prefixes)[0].Job.Policy; len(x.Read) != api.MaxFiles || len(x.Write) != api.MaxFiles {
		t.Error("MaxFiles prefixes")
	}
	faults(t, prefixes+"read \"/a\"", 2*api.MaxFiles+2, 5)
	faults(t, prefixes+"write \"/a\"", 2*api.MaxFiles+2, 5)
	deep := strings.Repeat("/d", api.MaxNest)
	var folders []string
	for i := 2; i <= len(deep); i += 2 {
		folders = append(folders, "dir \""+deep[:i]+"\"\n")
	}
	reads(t, "task \"a\"\n"+strings.Join(folders, ""), only("a", func(j *api.Job) { j.Tree, _, _ = trees.Read(strings.Join(folders, "")) }))
	faults(t, "task \"a\"\n"+strings.Join(folders, "")+"dir \""+deep+"/d\"", api.MaxNest+2, 5)
}

// 29.2: tasks that are right, and such as are not.
func TestPrint(t *testing.T) {
	long := strings.Repeat("n", api.MaxName)
	for _, does := range []func(x *api.Task){
		func(x *api.Task) {},
		func(x *api.Task) { x.Name = long },
		func(x *api.Task) { x.Name = "\n\x00\"\\" },
		func(x *api.Task) {
			x.Job.Script, x.Job.Input, x.Job.Options.Suffix = "k\n\xff", "\"", strings.Repeat("/", 1000)
		},
		func(x *api.Task) {
			x.Job.Options = api.Options{Quiet: true, Extended: true, Separate: true, InPlace: true}
		},
		func(x *api.Task) { x.Job.Options = api.Options{Extended: true, InPlace: true, Suffix: "~"} },
		func(x *api.Task) { x.Job.Names = make([]string, api.MaxFiles) },
		func(x *api.Task) { x.Job.Names = []string{"b", "a", "", "b", "\n"} },
		func(x *api.Task) { x.Job.Faults = slices.Repeat([]int{api.MaxNumber, 0}, api.MaxFiles/2) },
		func(x *api.Task) { x.Job.Policy.Read = wood.Paths("b", "a b", "a", "b") },
		func(x *api.Task) {
			x.Job.Policy = api.Policy{Fuel: api.MaxNumber, Memory: api.MaxMemory, Output: api.MaxQuota, Each: api.MaxQuota}
		},
		func(x *api.Task) {
			x.Job.Tree = wood.Root(wood.Dir("d", wood.Text("f", "\x00")), wood.Link("l", "/"), wood.Text("m", ""))
		},
	} {
		x := only("t", nil)
		does(&x)
		l := []api.Task{only("first", nil), x, only("last", nil)}
		if s, why := farm.Print(l); s != plainPrint(l) || why != api.OK {
			t.Errorf("Print(%.300s) = %.400q, %d", show(l), s, why)
		}
	}
	for i, does := range []func(x *api.Task){
		func(x *api.Task) { x.Name = "" },
		func(x *api.Task) { x.Name = long + "n" },
		func(x *api.Task) { x.Name = "first" },
		func(x *api.Task) { x.Name = "last" },
		func(x *api.Task) { x.Job.Names = make([]string, api.MaxFiles+1) },
		func(x *api.Task) { x.Job.Faults = make([]int, api.MaxFiles+1) },
		func(x *api.Task) { x.Job.Faults = []int{0, -1} },
		func(x *api.Task) { x.Job.Faults = []int{api.MaxNumber + 1, 0} },
		func(x *api.Task) { x.Job.Policy.Fuel = -1 },
		func(x *api.Task) { x.Job.Policy.Each = api.MaxQuota + 1 },
		func(x *api.Task) { x.Job.Policy.Read = []api.Path{{".."}} },
		func(x *api.Task) { x.Job.Policy.Write = make([]api.Path, api.MaxFiles+1) },
		func(x *api.Task) { x.Job.Tree = api.File{} },
		func(x *api.Task) { x.Job.Tree = wood.Text("", "") },
		func(x *api.Task) { x.Job.Tree = wood.Root(wood.Text("b", ""), wood.Text("a", "")) },
		func(x *api.Task) { x.Job.Tree = wood.Root(wood.Link("l", "")) },
	} {
		x := only("t", nil)
		does(&x)
		if s, why := farm.Print([]api.Task{only("first", nil), x, only("last", nil)}); s != "" || why != api.ErrTask {
			t.Errorf("Print of what is not right, %d: %.300q, %d", i, s, why)
		}
	}
	l := many(api.MaxTasks)
	if s, why := farm.Print(l); s != plainPrint(l) || why != api.OK {
		t.Error("MaxTasks tasks:", why)
	}
	if s, why := farm.Print(append(l, only("more", nil))); s != "" || why != api.ErrTask {
		t.Error("more than MaxTasks tasks:", why)
	}
	if s, why := farm.Print(nil); s != "" || why != api.OK {
		t.Errorf("no tasks: %q, %d", s, why)
	}
}

// check holds Parse of a text to the second reading, and to what follows from it.
func check(t *testing.T, s string) api.Fault {
	t.Helper()
	want, at := plainParse(s)
	l, why, fault := farm.Parse(s)
	if fault != at || show(l) != show(want) || (why == api.OK) != (at == api.Fault{}) || why != api.OK && why != api.ErrLine {
		t.Fatalf("Parse(%q) = %s, %d, %v, not %s, %v", s, show(l), why, fault, show(want), at)
	}
	if why != api.OK {
		return at
	}
	// 29.7
	text, why := farm.Print(l)
	again, no, _ := farm.Parse(text)
	var as []api.Task
	for _, x := range l {
		if !isRight(x) {
			t.Fatalf("Parse(%q) is not right: %s", s, show(l))
		}
		as = append(as, normal(x))
	}
	if why != api.OK || no != api.OK || show(again) != show(as) || text != plainPrint(l) {
		t.Fatalf("Print(Parse(%q)) = %q, %d, read as %s, %d", s, text, why, show(again), no)
	}
	return at
}

// 29.3: lines of all kinds one behind another, held against the rules.
func TestParseByTheRules(t *testing.T) {
	pool := strings.Split(`task "a"|task "b"|task ""|task a|script "p"|script "p" |script|input ""|input "x\n"|suffix "~"|suffix|option quiet|option inplace|option loud|name "n"|name n|fault 0|fault 01|fault 1073741824|fault 1073741825|`+
		`read "/a"|read "a"|read "/"|write "/a"|fuel 1|fuel 1073741825|fuel x|memory 2|each|dir "/d"|dir "/d/e"|dir "d"|text "/d/f" ""|text "/a" "x"|link "/l" "x"|link "/l" ""||#|# task|job| `, "|")
	for _, a := range pool {
		check(t, a)
		for _, b := range pool {
			check(t, a+"\n"+b)
			check(t, "task \"z\"\n"+a+"\n"+b+"\n")
		}
	}
	chance := rand.New(rand.NewSource(293)).Intn
	rules := map[int]int{}
	for range 30000 {
		l := []string{"task \"z\""}
		for range chance(14) {
			l = append(l, pool[chance(len(pool))])
		}
		rules[check(t, strings.Join(l, "\n")).Rule]++
	}
	// such as are right for long
	right := strings.Split(`script "p"|input "i"|suffix "~"|option quiet|option extended|option separate|option inplace|name "n"|fault 3|read "/a"|write "/b"|fuel 1|memory 2|output 3|each 4|dir "/d"|text "/d/e" "x"|link "/l" "/d"|#|`, "|")
	for range 10000 {
		var all []string
		for i := range 1 + chance(4) {
			all = append(all, "task \""+strconv.Itoa(i-chance(2)*chance(2))+"\"")
			for _, s := range right {
				if chance(3) > 0 {
					all = append(all, s)
				}
			}
			if chance(3) == 0 {
				x, y := len(all)-1-chance(len(all)), len(all)-1-chance(len(all))
				all[x], all[y] = all[y], all[x]
			}
			if chance(4) == 0 {
				all = append(all, right[chance(len(right))])
			}
		}
		rules[check(t, strings.Join(all, "\n")).Rule]++
	}
	for rule := range 6 {
		if rules[rule] < 1000 {
			t.Error("only a few:", rules)
		}
	}
}

// 29.2, 29.7: what Print writes of right tasks is read as the same, with policies in their normal form; changed by a byte or a line it is what the rules say.
func TestThereAndBack(t *testing.T) {
	chance := rand.New(rand.NewSource(297)).Intn
	rules := map[int]int{}
	for range 2500 {
		var l []api.Task
		for i := range chance(4) {
			x := api.Task{Name: strings.Repeat("\n", i+1) + "t", Job: marsh.Job(chance)}
			if chance(4) == 0 {
				x.Job.Policy.Read = append(x.Job.Policy.Read, wood.Paths("in0 x", "d f")...)
			}
			l = append(l, x)
		}
		s, why := farm.Print(l)
		if why != api.OK || s != plainPrint(l) {
			t.Fatalf("Print(%s) = %q, %d", show(l), s, why)
		}
		var want []api.Task
		for _, x := range l {
			want = append(want, normal(x))
		}
		got, why, _ := farm.Parse(s)
		if why != api.OK || show(got) != show(want) {
			t.Fatalf("Parse(%q) = %s, %d", s, show(got), why)
		}
		rules[check(t, changed(chance, s)).Rule]++
	}
	for rule := range 6 {
		if rules[rule] < 20 {
			t.Error("only a few:", rules)
		}
	}
}

// changed is a text with a line or a byte of it otherwise.
func changed(chance func(int) int, s string) string {
	if s == "" {
		return s
	}
	all := strings.SplitAfter(s, "\n")
	i, k := chance(len(all)-1), chance(len(all)-1)
	switch chance(4) {
	case 0:
		return strings.Join(slices.Delete(all, i, i+1), "")
	case 1:
		return strings.Join(slices.Insert(all, i, all[k]), "")
	case 2:
		all[i], all[k] = all[k], all[i]
		return strings.Join(all, "")
	}
	at := chance(len(s))
	return s[:at] + []string{"", " ", "\"", "\\", "0", "/", "\n", "#"}[chance(8)] + s[at+1:]
}

// 29.3: long texts are read in one go.
func TestLongText(t *testing.T) {
	var s strings.Builder
	s.WriteString("task \"a\"\n")
	for i := range 200000 {
		n := strconv.Itoa(1000000 + i)
		s.WriteString("text \"/f" + n + "\" \"\"\n")
		if i < api.MaxFiles {
			s.WriteString("write \"/x" + n + "\"\nname \"n\"\n")
		}
	}
	s.WriteString("fuel 7")
	l := mustRead(t, s.String())
	if x := l[0].Job; len(x.Tree.Files) != 200000 || len(x.Policy.Write) != api.MaxFiles || x.Policy.Fuel != 7 {
		t.Error("a long text:", len(x.Tree.Files), len(x.Policy.Write))
	}
}

// 29.5: Print and Report leave what is handed in as it is, spare room too; answers are new memory, in all their lists.
func TestTextMemory(t *testing.T) {
	chance := rand.New(rand.NewSource(298)).Intn
	for range 200 {
		var l, was []api.Task
		for i := range 3 {
			j := marsh.Job(chance)
			j.Policy, _ = policy.Normal(j.Policy)
			was = append(was, api.Task{Name: strconv.Itoa(i), Job: j})
			l = append(l, api.Task{Name: strconv.Itoa(i), Job: marsh.RoomyJob(j)})
		}
		s, _ := farm.Print(l)
		if show(l) != show(was) {
			t.Fatal("what was handed in has changed")
		}
		for i := range l {
			if !marsh.JobUntouched(l[i].Job, was[i].Job) {
				t.Fatal("spare room has changed")
			}
		}
		want := show(was)
		a, b := mustRead(t, s), mustRead(t, s)
		for i := range a {
			marsh.BlotJob(a[i].Job)
			if show(a[i+1:]) != show(was[i+1:]) {
				t.Fatal("two tasks of an answer share memory")
			}
		}
		if show(b) != want {
			t.Fatal("two answers share memory")
		}
	}
}

// 29.5: no two lists of one task share memory.
func TestListsApart(t *testing.T) {
	s := "task \"a\"\nname \"n\"\nfault 1\nread \"/a/b\"\nread \"/c/d\"\nwrite \"/a/b\"\ndir \"/d\"\ntext \"/d/f\" \"\""
	for i := range 6 {
		j := mustRead(t, s)[0].Job
		want := mustRead(t, s)[0].Job
		lists := []func(j *api.Job){
			func(j *api.Job) { clear(j.Names[:cap(j.Names)]) },
			func(j *api.Job) { clear(j.Faults[:cap(j.Faults)]) },
			func(j *api.Job) { wood.Blot(j.Policy.Read[0]) },
			func(j *api.Job) { wood.Blot(j.Policy.Read[1]) },
			func(j *api.Job) { wood.Blot(j.Policy.Write[0]) },
			func(j *api.Job) { wood.Spoil(j.Tree) },
		}
		keeps := []func(j *api.Job){
			func(j *api.Job) { j.Names = nil }, func(j *api.Job) { j.Faults = nil },
			func(j *api.Job) { j.Policy.Read = j.Policy.Read[1:] }, func(j *api.Job) { j.Policy.Read = j.Policy.Read[:1] },
			func(j *api.Job) { j.Policy.Write = nil }, func(j *api.Job) { j.Tree = api.File{} },
		}
		lists[i](&j)
		keeps[i](&j)
		keeps[i](&want)
		if marsh.ShowJob(j) != marsh.ShowJob(want) {
			t.Errorf("list %d shares memory with another one", i)
		}
	}
}
