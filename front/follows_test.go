package front_test

import (
	"math/rand"
	"slices"
	"strconv"
	"strings"
	"testing"

	"paddock/api"
	"paddock/args"
	"paddock/audit"
	"paddock/farm"
	"paddock/front"
	"paddock/marsh"
	"paddock/policy"
	"paddock/sandbox"
	"paddock/script"
	"paddock/trees"
)

// run is what a call answers.
func run(l, files []string) answer {
	out, line, code := front.Run(l, files)
	return answer{out, line, code}
}

// textOf is a text of a kind by chance; those of one job go together.
func textOf(chance func(int) int, kind string, j api.Job) string {
	s := ""
	switch kind {
	case "policy":
		s, _ = policy.Print(j.Policy)
	case "tree":
		s, _ = trees.Print(j.Tree)
	case "log":
		if chance(2) == 0 {
			j.Policy.Read, j.Policy.Write = []api.Path{nil}, []api.Path{nil}
		}
		s, _ = audit.Print(sandbox.Run(j).Log)
	case "tasks":
		var l []api.Task
		for i := range chance(4) {
			l = append(l, api.Task{Name: "t" + strconv.Itoa(i), Job: marsh.Job(chance)})
		}
		s, _ = farm.Print(l)
	case "script":
		s = j.Script
	case "input":
		s = j.Input
	}
	if chance(25) == 0 {
		at := chance(len(s) + 1)
		s = s[:at] + []string{"x", "\"", "\n", "}", "#", "0"}[chance(6)] + s[at:]
	}
	return s
}

// argsOf are arguments of a command by chance, without blanks in them but those of scripts and names.
func argsOf(chance func(int) int, command string, j api.Job) []string {
	l := []string{command}
	switch kinds[command] {
	case "policy tree input":
		x := api.Argv{Options: j.Options, Scripts: []api.Source{{Text: j.Script}}, Names: j.Names}
		x.Options.Separate = x.Options.Separate || x.Options.InPlace
		if x.Options.Suffix = strings.ReplaceAll(x.Options.Suffix, "/", ""); !x.Options.InPlace {
			x.Options.Suffix = ""
		}
		if chance(6) == 0 {
			x.Scripts = append(x.Scripts, api.Source{File: true, Text: []string{"f", "d/f", "dev", "none", "l", "s"}[chance(6)]})
		}
		told, _ := args.Print(x)
		l = append(l, told...)
	case "script", "script input":
		if chance(2) == 0 {
			l = append(l, "-E")
		}
	}
	switch command {
	case "find":
		l = append(l, []string{"/*", "/**", "/d/?", "/**/[fg]", "/in[0-1]", "/[", "/in0/", "d"}[chance(8)])
	case "debug":
		l = append(l, strconv.Itoa(chance(30)))
	case "farm":
		l = append(l, strconv.Itoa(1+chance(api.MaxWorkers)))
	}
	if chance(8) == 0 {
		at := chance(len(l) + 1)
		l = slices.Insert(l, at, []string{"-E", "-x", "1", "0", "1001", "64", "65", "-n", "01", "--", "/*", "sed", "tree"}[chance(13)])
	}
	if at := chance(len(l)); chance(12) == 0 {
		l = slices.Delete(l, at, at+1)
	}
	return l
}

// asks are arguments and files by chance.
func asks(chance func(int) int) ([]string, []string) {
	all := strings.Fields(everyCommand)
	command := all[chance(len(all))]
	j := marsh.Job(chance)
	l := argsOf(chance, command, j)
	var files []string
	for _, kind := range strings.Fields(kinds[command]) {
		files = append(files, textOf(chance, kind, j))
	}
	if chance(20) == 0 {
		files = append(files, "")
	}
	if chance(20) == 0 {
		files = files[1:]
	}
	return l, files
}

// oneLine tells whether a text is empty, or a line that an LF ends.
func oneLine(s string) bool {
	return s == "" || strings.Count(s, "\n") == 1 && strings.HasSuffix(s, "\n") && len(s) > 1
}

// P30.1 to P30.6, P30.8: grown calls, against the second reading, asked once and again behind others.
func TestGrown(t *testing.T) {
	chance := rand.New(rand.NewSource(3001)).Intn
	type call struct {
		l, files []string
		want     answer
	}
	var ahead []call
	seen := map[string]int{}
	for range 25000 {
		l, files := asks(chance)
		want := plain(l, files)
		got := run(l, files)
		if got != want {
			t.Fatalf("%q of %q:\n%v\nnot %v", l, files, got, want)
		}
		usage := badArgument(l) >= 0 || strings.HasPrefix(got.line, "file ") || strings.HasPrefix(got.line, "usage ") || strings.HasPrefix(got.line, "pattern ") || strings.HasPrefix(got.line, "source ")
		if !oneLine(got.line) || usage && (got.code != 64 || got.out != "" || got.line == "") {
			t.Fatalf("%q of %q: %v", l, files, got)
		}
		what, _, _ := strings.Cut(got.line, " ")
		seen[strings.TrimSuffix(what, "\n")]++
		if got.line == "" {
			seen[l[0]]++
		}
		if ahead = append(ahead, call{l, files, want}); len(ahead) > 50 {
			c := ahead[chance(50)]
			if got := run(c.l, c.files); got != c.want {
				t.Fatalf("%q of %q, again:\n%v\nnot %v", c.l, c.files, got, c.want)
			}
			ahead = ahead[1:]
		}
	}
	for _, what := range strings.Fields(everyCommand + " usage file pattern source script denied failed exhausted job") {
		if seen[what] < 50 {
			t.Error("only a few:", what, seen)
		}
	}
}

// P30.7: what is written is taken by the same command, and is what it writes of it; what files writes is taken by tree.
func TestCanonical(t *testing.T) {
	chance := rand.New(rand.NewSource(307)).Intn
	seen := map[string]int{}
	for range 6000 {
		command := []string{"format", "policy", "tree", "files"}[chance(4)]
		j := marsh.Job(chance)
		l := argsOf(chance, command, j)
		var files []string
		for _, kind := range strings.Fields(kinds[command]) {
			files = append(files, textOf(chance, kind, j))
		}
		a := run(l, files)
		if command != "files" && a.code != 0 || command == "files" && a.out == "" {
			continue
		}
		seen[command]++
		if command == "files" {
			l = []string{"tree"}
		}
		if again := run(l, []string{a.out}); again != (answer{out: a.out}) {
			t.Fatalf("%q of %q: %v, then %v", l, files, a, again)
		}
	}
	for _, command := range []string{"format", "policy", "tree", "files"} {
		if seen[command] < 500 {
			t.Error("only a few:", seen)
		}
	}
}

// P30.8: sed's code is the sandbox's; format's is 0 just if the script has no flaw.
func TestCodes(t *testing.T) {
	chance := rand.New(rand.NewSource(308)).Intn
	codes := map[int]int{}
	for range 4000 {
		j := marsh.Job(chance)
		j.Faults, j.Options.Separate = nil, j.Options.Separate || j.Options.InPlace
		if j.Options.Suffix = strings.ReplaceAll(j.Options.Suffix, "/", ""); !j.Options.InPlace {
			j.Options.Suffix = ""
		}
		l, why := args.Print(api.Argv{Options: j.Options, Scripts: []api.Source{{Text: j.Script}}, Names: j.Names})
		may, _ := policy.Print(j.Policy)
		tree, _ := trees.Print(j.Tree)
		if why != api.OK {
			t.Fatal("Print: error", why)
		}
		o := sandbox.Run(j)
		for _, command := range []string{"sed", "files", "log", "diff"} {
			if a := run(append([]string{command}, l...), []string{may, tree, j.Input}); a.code != o.Code || (a.line == "") != (o.Message == "") {
				t.Fatalf("%s of %s: %v, not %d", command, marsh.ShowJob(j), a, o.Code)
			}
		}
		codes[o.Code]++
		for extended, l := range map[bool][]string{false: {"format"}, true: {"format", "-E"}} {
			_, why, _ := script.Parse(j.Script, extended)
			if a := run(l, []string{j.Script}); (a.code == 0) != (why == api.OK) || a.code > 1 {
				t.Fatalf("%v of %q: %v", l, j.Script, a)
			}
		}
	}
	for code := range 6 {
		if codes[code] < 50 {
			t.Error("only a few:", codes)
		}
	}
}

// P30.9: the log of a run is confined to its policy.
func TestLogsConfined(t *testing.T) {
	chance := rand.New(rand.NewSource(309)).Intn
	whole := 0
	for range 6000 {
		j := marsh.Job(chance)
		l := argsOf(chance, "log", j)
		may, _ := policy.Print(j.Policy)
		tree, _ := trees.Print(j.Tree)
		a := run(l, []string{may, tree, j.Input})
		if a.out == "" || l[0] != "log" {
			continue
		}
		whole++
		if again := run([]string{"confined"}, []string{may, a.out}); again != (answer{out: "confined\n"}) {
			t.Fatalf("%s: %v, then %v", marsh.ShowJob(j), a, again)
		}
	}
	if whole < 2000 {
		t.Error("only a few:", whole)
	}
}
