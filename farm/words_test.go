package farm_test

import (
	"regexp"
	"slices"
	"strconv"
	"strings"

	"paddock/api"
	"paddock/lines"
	"paddock/paths"
	"paddock/policy"
	"paddock/trees"
)

// A second reading of the chapter's words: each rule is asked of a line by itself, behind the lines that stand ahead.

var (
	anyWord   = regexp.MustCompile(`^(task|script|input|suffix|option|name|fault|read|write|fuel|memory|output|each|dir|text|link) `)
	anyQuoted = regexp.MustCompile(`^(task|script|input|suffix|name) `)
	anyPolicy = regexp.MustCompile(`^(read|write|fuel|memory|output|each) `)
	anyTree   = regexp.MustCompile(`^(dir|text|link) `)
	anyOption = regexp.MustCompile(`^option (quiet|extended|separate|inplace)$`)
	anyFault  = regexp.MustCompile(`^fault (0|[1-9][0-9]*)$`)
	once      = regexp.MustCompile(`^(script|input|suffix) `)
	several   = regexp.MustCompile(`^(name|fault) `)
)

// such are the lines of some that an expression says.
func such(l []string, x *regexp.Regexp) []string {
	var out []string
	for _, s := range l {
		if x.MatchString(s) {
			out = append(out, s)
		}
	}
	return out
}

// text is what stands in quotes behind a line's word.
func text(line string) (string, bool) {
	_, rest, _ := strings.Cut(line, " ")
	s, n, why, _ := lines.Unquote(rest)
	return s, why == api.OK && n == len(rest)
}

// since are the lines of the task that was begun last: its own line, and those behind.
func since(ahead []string) []string {
	for i := len(ahead) - 1; i >= 0; i-- {
		if strings.HasPrefix(ahead[i], "task ") {
			return ahead[i:]
		}
	}
	return nil
}

// hasForm is rule 2.
func hasForm(line string) bool {
	if anyQuoted.MatchString(line) {
		_, ok := text(line)
		return ok
	}
	return anyPolicy.MatchString(line) || anyTree.MatchString(line) || anyOption.MatchString(line) || anyFault.MatchString(line)
}

// hasTask is rule 3.
func hasTask(line string, ahead []string) bool {
	tasks := such(ahead, regexp.MustCompile("^task "))
	if !strings.HasPrefix(line, "task ") {
		return len(tasks) > 0
	}
	name, _ := text(line)
	return len(name) >= 1 && len(name) <= 255 && !slices.Contains(tasks, line) && len(tasks) < 1024
}

// hasRoom is rule 4.
func hasRoom(line string, ahead []string) bool {
	word, rest, _ := strings.Cut(line, " ")
	same := such(since(ahead), regexp.MustCompile("^"+word+" "))
	switch {
	case once.MatchString(line):
		return len(same) == 0
	case strings.HasPrefix(line, "option "):
		return !slices.Contains(same, line)
	case strings.HasPrefix(line, "fault ") && (len(rest) > 10 || len(rest) == 10 && rest > "1073741824"):
		return false
	case several.MatchString(line):
		return len(same) < 1024
	}
	return true
}

// hasPart is rule 5.
func hasPart(line string, ahead []string) bool {
	var f api.Fault
	task := append(slices.Clone(since(ahead)), line)
	switch {
	case anyPolicy.MatchString(line):
		_, _, f = policy.Parse(strings.Join(such(task, anyPolicy), "\n"))
	case anyTree.MatchString(line):
		_, _, f = trees.Read(strings.Join(such(task, anyTree), "\n"))
	}
	return f.Line == 0
}

// broken is the least rule that a line breaks.
func broken(line string, ahead []string) int {
	switch {
	case !anyWord.MatchString(line):
		return 1
	case !hasForm(line):
		return 2
	case !hasTask(line, ahead):
		return 3
	case !hasRoom(line, ahead):
		return 4
	case !hasPart(line, ahead):
		return 5
	}
	return 0
}

// plainParse reads tasks by the rules above, line by line.
func plainParse(s string) ([]api.Task, api.Fault) {
	var out []api.Task
	var ahead []string
	for i, l := range lines.Split(s) {
		line := l.Text
		if line == "" || strings.HasPrefix(line, "#") {
			continue
		}
		if rule := broken(line, ahead); rule != 0 {
			return nil, api.Fault{Line: i + 1, Rule: rule}
		}
		ahead = append(ahead, line)
		if strings.HasPrefix(line, "task ") {
			out = append(out, api.Task{})
		}
		keep(&out[len(out)-1], line, since(ahead))
	}
	return out, api.Fault{}
}

// keep has a task have what a line tells, the last one of its lines.
func keep(x *api.Task, line string, all []string) {
	word, rest, _ := strings.Cut(line, " ")
	said, _ := text(line)
	j := &x.Job
	switch word {
	case "task":
		x.Name, j.Tree = said, api.File{Kind: api.FileDir}
	case "script":
		j.Script = said
	case "input":
		j.Input = said
	case "suffix":
		j.Options.Suffix = said
	case "name":
		j.Names = append(j.Names, said)
	case "fault":
		n, _ := strconv.Atoi(rest)
		j.Faults = append(j.Faults, n)
	case "option":
		o := &j.Options
		*map[string]*bool{"quiet": &o.Quiet, "extended": &o.Extended, "separate": &o.Separate, "inplace": &o.InPlace}[rest] = true
	default:
		j.Policy, _, _ = policy.Parse(strings.Join(such(all, anyPolicy), "\n"))
		j.Tree, _, _ = trees.Read(strings.Join(such(all, anyTree), "\n"))
	}
}

// plainPrint writes right tasks.
func plainPrint(l []api.Task) string {
	var out []string
	for _, x := range l {
		j := x.Job
		for _, w := range [][2]string{{"task", x.Name}, {"script", j.Script}, {"input", j.Input}, {"suffix", j.Options.Suffix}} {
			out = append(out, w[0]+" "+lines.Quote(w[1]))
		}
		for i, has := range []bool{j.Options.Quiet, j.Options.Extended, j.Options.Separate, j.Options.InPlace} {
			if has {
				out = append(out, "option "+strings.Fields("quiet extended separate inplace")[i])
			}
		}
		for _, s := range j.Names {
			out = append(out, "name "+lines.Quote(s))
		}
		for _, n := range j.Faults {
			out = append(out, "fault "+strconv.Itoa(n))
		}
		may, _ := policy.Print(j.Policy)
		files, _ := trees.Print(j.Tree)
		if may += files; may != "" {
			out = append(out, strings.TrimSuffix(may, "\n"))
		}
	}
	if len(out) == 0 {
		return ""
	}
	return strings.Join(out, "\n") + "\n"
}

// isRight tells whether a task is right by itself.
func isRight(x api.Task) bool {
	for _, n := range x.Job.Faults {
		if n < 0 || n > 1<<30 {
			return false
		}
	}
	tree, _ := trees.Check(x.Job.Tree)
	return x.Name != "" && len(x.Name) <= 255 && policy.Check(x.Job.Policy) == api.OK && tree == api.OK && len(x.Job.Names) <= 1024 && len(x.Job.Faults) <= 1024
}

// normal is a task whose policy has as few prefixes as say the same.
func normal(x api.Task) api.Task {
	x.Job.Policy.Read, x.Job.Policy.Write = paths.Cover(x.Job.Policy.Read), paths.Cover(x.Job.Policy.Write)
	return x
}
