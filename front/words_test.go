package front_test

import (
	"regexp"
	"slices"
	"strconv"
	"strings"

	"paddock/api"
	"paddock/args"
	"paddock/audit"
	"paddock/debug"
	"paddock/farm"
	"paddock/lines"
	"paddock/paths"
	"paddock/policy"
	"paddock/pretty"
	"paddock/program"
	"paddock/reach"
	"paddock/sandbox"
	"paddock/script"
	"paddock/spec"
	"paddock/tidy"
	"paddock/trees"
	"paddock/wood"
)

// A second reading of the chapter's words, as plainly as can be.

// answer is all that a call answers.
type answer struct {
	out, line string
	code      int
}

func (a answer) String() string {
	return strconv.Quote(a.out) + ", " + strconv.Quote(a.line) + ", " + strconv.Itoa(a.code)
}

// kinds are the files of each command.
var kinds = map[string]string{
	"sed": "policy tree input", "files": "policy tree input", "log": "policy tree input", "diff": "policy tree input",
	"format": "script", "tidy": "script", "reach": "script", "policy": "policy", "tree": "tree", "find": "tree",
	"confined": "policy log", "debug": "script input", "farm": "tasks",
}

// forms are the arguments that each command's may be as a whole, each with a blank behind; of the four that run a job see badArgument.
var forms = map[string]string{
	"format": `(-E )?`, "tidy": `(-E )?`, "reach": `(-E )?`, "policy": ``, "tree": ``, "confined": ``,
	"find": `\S* `, "debug": `(-E )?(0|[1-9][0-9]{0,2}|1000) `, "farm": `([1-9]|[1-5][0-9]|6[0-4]) `,
}

// badArgument is the number of the first argument that may not be so; -1: none. The arguments here have no blanks.
func badArgument(l []string) int {
	if len(l) == 0 || kinds[l[0]] == "" {
		return 0
	}
	if forms[l[0]] == "" && kinds[l[0]] == "policy tree input" {
		if _, why, at := args.Read(l[1:]); why != api.OK {
			return at + 1
		}
		return -1
	}
	whole := regexp.MustCompile("^(" + forms[l[0]] + ")$")
	joined := func(l []string) string {
		out := ""
		for _, s := range l {
			out += s + " "
		}
		return out
	}
	if whole.MatchString(joined(l[1:])) {
		return -1
	}
	// an argument may stand where it does, if what stands there can be gone on with to a whole
	for i := 1; i < len(l); i++ {
		may := false
		for _, rest := range [][]string{nil, {"1"}} {
			may = may || whole.MatchString(joined(slices.Concat(l[1:i+1], rest)))
		}
		if !may {
			return i
		}
	}
	return len(l)
}

// asked is all that right arguments and files tell.
type asked struct {
	argv         api.Argv
	extended     bool
	last         string
	may          api.Policy
	tree         api.File
	log          []api.Entry
	tasks        []api.Task
	text, stdin  string
	source, flaw string
}

// plain is a second reading of Run.
func plain(l, files []string) answer {
	if i := badArgument(l); i >= 0 {
		return answer{line: "usage argument " + strconv.Itoa(i) + "\n", code: 64}
	}
	of := strings.Fields(kinds[l[0]])
	if len(files) != len(of) {
		return answer{line: "usage files\n", code: 64}
	}
	x := asked{last: l[len(l)-1], extended: slices.Contains(l[1:], "-E")}
	x.argv, _, _ = args.Read(l[1:])
	for i, kind := range of {
		var f api.Fault
		switch kind {
		case "policy":
			x.may, _, f = policy.Parse(files[i])
		case "tree":
			x.tree, _, f = trees.Read(files[i])
		case "log":
			x.log, _, f = audit.Read(files[i])
		case "tasks":
			x.tasks, _, f = farm.Parse(files[i])
		case "script":
			x.text = files[i]
		case "input":
			x.stdin = files[i]
		}
		if f.Line > 0 {
			return answer{line: "file " + strconv.Itoa(i) + " line " + strconv.Itoa(f.Line) + " rule " + strconv.Itoa(f.Rule) + "\n", code: 64}
		}
	}
	switch {
	case of[len(of)-1] == "input" && of[0] == "policy":
		return plainJob(l[0], x)
	case of[0] == "script":
		return plainScript(l[0], x)
	}
	return plainText(l[0], x)
}

// plainJob is one of the four that run a job.
func plainJob(command string, x asked) answer {
	var pieces []string
	for _, s := range x.argv.Scripts {
		if s.File {
			p, _, why := paths.Normal(nil, s.Text)
			thing := wood.Table(x.tree)[wood.Own(p)]
			if why != api.OK || thing.Kind != api.FileText {
				return answer{line: "source " + lines.Quote(s.Text) + "\n", code: 64}
			}
			s.Text = thing.Data
		}
		pieces = append(pieces, s.Text)
	}
	o := sandbox.Run(api.Job{Script: strings.Join(pieces, "\n"), Options: x.argv.Options, Names: x.argv.Names, Input: x.stdin, Tree: x.tree, Policy: x.may})
	a := answer{line: strings.TrimPrefix(o.Message+"\n", "\n"), code: o.Code}
	switch {
	case command == "sed":
		a.out = o.Out
	case o.Why != api.OK:
	case command == "files":
		a.out, _ = trees.Print(o.Tree)
	case command == "log":
		a.out, _ = audit.Print(o.Log)
	default:
		a.out = plainDiff(wood.Table(x.tree), wood.Table(o.Tree))
	}
	return a
}

// plainDiff tells what texts two tables have that are not alike.
func plainDiff(a, b map[string]wood.Thing) string {
	var all [][]string
	for _, table := range []map[string]wood.Thing{a, b} {
		for at := range table {
			all = append(all, strings.Split(at, "/"))
		}
	}
	slices.SortFunc(all, slices.Compare)
	out := ""
	for _, names := range slices.CompactFunc(all, slices.Equal) {
		at := strings.Join(names, "/")
		x, y := a[at], b[at]
		if x.Kind != api.FileText {
			x.Data = ""
		}
		if y.Kind != api.FileText {
			y.Data = ""
		}
		diff, _ := lines.Unified(at, x.Data, y.Data, 3)
		out += diff
	}
	return out
}

// plainScript is one of those that have a script.
func plainScript(command string, x asked) answer {
	s, why, flaw := script.Parse(x.text, x.extended)
	out := ""
	if why == api.OK {
		switch p, _, _ := program.Make(s); command {
		case "format":
			out, why = pretty.Print(s)
		case "tidy":
			s, _ = tidy.Script(s)
			out, why = pretty.Print(s)
		case "reach":
			out = plainReach(p, x.extended)
		case "debug":
			count, _ := strconv.Atoi(x.last)
			out = plainDebug(p, x, count)
		}
	}
	switch {
	case why == api.ErrScript:
		return answer{line: "script byte " + strconv.Itoa(flaw.At) + " rule " + strconv.Itoa(flaw.Rule) + "\n", code: 1}
	case why != api.OK:
		return answer{line: "error " + strconv.Itoa(int(why)) + "\n", code: 1}
	}
	return answer{out: out}
}

func plainReach(p api.Program, extended bool) string {
	r, _ := reach.Of(p, extended)
	out := ""
	for i, live := range r.Live {
		word := map[int]string{0: "dead", 1: "live"}[strings.Count(strconv.FormatBool(live), "t")]
		out += strconv.Itoa(i) + " " + lines.Quote(string([]byte{p.Steps[i].Command.Name})) + " " + word + "\n"
	}
	for i, l := range [][]string{r.Reads, r.Written} {
		out += []string{"reads", "writes"}[i]
		for _, s := range l {
			out += " " + lines.Quote(s)
		}
		out += "\n"
	}
	for i, holds := range []bool{r.Exec, r.Quits, r.Again} {
		if holds {
			out += strings.Fields("exec quits again")[i] + "\n"
		}
	}
	return out
}

func plainDebug(p api.Program, x asked, count int) string {
	w := api.World{Inputs: []api.Text{{Name: "-", Data: x.stdin}}}
	var out []string
	for n := 0; n <= count; n++ {
		m, _ := spec.At(p, api.Options{Extended: x.extended}, w, n)
		out = append(out, debug.Say(p, m))
		if m.Over {
			break
		}
	}
	return strings.Join(out, "--\n")
}

// plainText is one of those that have other texts.
func plainText(command string, x asked) answer {
	var a answer
	switch command {
	case "policy":
		a.out, _ = policy.Print(x.may)
	case "tree":
		a.out, _ = trees.Print(x.tree)
	case "find":
		if _, why, at := trees.Matches(x.last, nil); why != api.OK {
			return answer{line: "pattern byte " + strconv.Itoa(at) + "\n", code: 64}
		}
		all, _ := trees.List(x.tree)
		for _, f := range all {
			if says, _, _ := trees.Matches(x.last, f.Path); says {
				a.out += lines.Quote(wood.Own(f.Path)) + "\n"
			}
		}
	case "confined":
		a.out = "confined\n"
		for i, c := range slices.Backward(audit.Trace(x.log)) {
			if ok, _ := audit.Confined([]api.Call{c}, x.may.Read, x.may.Write); !ok {
				a.out = "call " + strconv.Itoa(i) + "\n"
			}
		}
	case "farm":
		for _, task := range x.tasks {
			o := sandbox.Run(task.Job)
			a.out += lines.Quote(task.Name) + " code " + strconv.Itoa(o.Code) + " out " + strconv.Itoa(len(o.Out)) + " steps " + strconv.Itoa(o.Steps) + " " + lines.Quote(o.Message) + "\n"
		}
	}
	return a
}
