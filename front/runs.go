package front

import (
	"strings"

	"paddock/api"
	"paddock/args"
	"paddock/audit"
	"paddock/lines"
	"paddock/paths"
	"paddock/sandbox"
	"paddock/trees"
)

// around is how many lines that are kept diff tells around others.
const around = 3

// runs is what a command does that runs a job, and tells something of what came of it, and of the tree as it was. Of a job that was not begun there is nothing to tell.
func runs(tells func(was api.File, o api.Outcome) string) func(r *request) (string, string, int) {
	return func(r *request) (string, string, int) {
		o := sandbox.Run(jobOf(r))
		out := ""
		if o.Why == api.OK {
			out = tells(r.tree, o)
		}
		if o.Message == "" {
			return out, "", o.Code
		}
		return out, line(o.Message), o.Code
	}
}

// jobOf is the job that a command line asks for.
func jobOf(r *request) api.Job {
	var texts []string
	for _, s := range r.argv.Scripts {
		if s.File {
			texts = append(texts, source(r.tree, s.Text))
		}
	}
	text, why := args.Script(r.argv.Scripts, texts)
	must(why)
	return api.Job{Script: text, Options: r.argv.Options, Names: r.argv.Names, Input: r.input, Tree: r.tree, Policy: r.policy}
}

// source is a piece of a script that is a file.
func source(t api.File, name string) string {
	if p, _, why := paths.Normal(nil, name); why == api.OK {
		if text, there := textAt(t, p); there {
			return text
		}
	}
	giveUp(codeUsage, "source", lines.Quote(name))
	return ""
}

// textAt is what a text has, if one stands at a path.
func textAt(t api.File, p api.Path) (string, bool) {
	f, why := trees.Get(t, p)
	if why != api.OK || f.Kind != api.FileText {
		return "", false
	}
	return f.Data, true
}

func sayOut(_ api.File, o api.Outcome) string { return o.Out }

func sayFiles(_ api.File, o api.Outcome) string {
	out, why := trees.Print(o.Tree)
	must(why)
	return out
}

func sayLog(_ api.File, o api.Outcome) string {
	out, why := audit.Print(o.Log)
	must(why)
	return out
}

// sayDiff tells how texts were changed. Where none stood, and none stands, nothing was.
func sayDiff(was api.File, o api.Outcome) string {
	changed, why := trees.Changed(was, o.Tree)
	must(why)
	var out strings.Builder
	for _, p := range changed {
		old, _ := textAt(was, p)
		now, _ := textAt(o.Tree, p)
		diff, why := lines.Unified(own(p), old, now, around)
		must(why)
		out.WriteString(diff)
	}
	return out.String()
}
