package front

import (
	"strconv"
	"strings"

	"paddock/api"
	"paddock/audit"
	"paddock/debug"
	"paddock/farm"
	"paddock/lines"
	"paddock/policy"
	"paddock/pretty"
	"paddock/program"
	"paddock/reach"
	"paddock/script"
	"paddock/tidy"
	"paddock/trees"
)

// says is what a command does that can only write something, or give up.
func says(what func(r *request) string) func(r *request) (string, string, int) {
	return func(r *request) (string, string, int) { return what(r), "", codeDone }
}

// mustScript ends a call by an error of a script, or by its flaw.
func mustScript(why api.Errno, flaw api.Flaw) {
	if why == api.ErrScript {
		giveUp(codeWrong, "script", "byte", strconv.Itoa(flaw.At), "rule", strconv.Itoa(flaw.Rule))
	}
	must(why)
}

func format(r *request) string {
	out, why, flaw := pretty.Format(r.script, r.extended)
	mustScript(why, flaw)
	return out
}

// parsed is the script that a file is.
func parsed(r *request) api.Script {
	s, why, flaw := script.Parse(r.script, r.extended)
	mustScript(why, flaw)
	return s
}

// made is the program of that script.
func made(r *request) api.Program {
	p, why, _ := program.Make(parsed(r))
	must(why)
	return p
}

func tidied(r *request) string {
	s, why := tidy.Script(parsed(r))
	must(why)
	out, why := pretty.Print(s)
	must(why)
	return out
}

func reached(r *request) string {
	p := made(r)
	x, why := reach.Of(p, r.extended)
	must(why)
	var out strings.Builder
	for i, s := range p.Steps {
		out.WriteString(line(strconv.Itoa(i), lines.Quote(string([]byte{s.Command.Name})), lives(x.Live[i])))
	}
	out.WriteString(named("reads", x.Reads))
	out.WriteString(named("writes", x.Written))
	out.WriteString(held("exec", x.Exec))
	out.WriteString(held("quits", x.Quits))
	out.WriteString(held("again", x.Again))
	return out.String()
}

func lives(live bool) string {
	if live {
		return "live"
	}
	return "dead"
}

// named is a line of a word, and of names behind it.
func named(word string, names []string) string {
	words := []string{word}
	for _, s := range names {
		words = append(words, lines.Quote(s))
	}
	return line(words...)
}

// held is a line of a word, if it holds.
func held(word string, holds bool) string {
	if !holds {
		return ""
	}
	return line(word)
}

func printPolicy(r *request) string {
	out, why := policy.Print(r.policy)
	must(why)
	return out
}

func printTree(r *request) string {
	out, why := trees.Print(r.tree)
	must(why)
	return out
}

func find(r *request) string {
	found, why, at := trees.Find(r.tree, r.pattern)
	if why == api.ErrPattern {
		giveUp(codeUsage, "pattern", "byte", strconv.Itoa(at))
	}
	must(why)
	var out strings.Builder
	for _, p := range found {
		out.WriteString(line(lines.Quote(own(p))))
	}
	return out.String()
}

// own is a path's own text; those of trees may be longer than those that paths.Print takes.
func own(p api.Path) string { return "/" + strings.Join(p, "/") }

func confined(r *request) string {
	ok, i := audit.Confined(audit.Trace(r.log), r.policy.Read, r.policy.Write)
	if !ok {
		return line("call", strconv.Itoa(i))
	}
	return line("confined")
}

func debugged(r *request) string {
	p := made(r)
	w := api.World{Inputs: []api.Text{{Name: "-", Data: r.input}}}
	d, why := debug.New(p, api.Options{Extended: r.extended}, w)
	must(why)
	m := d.Now()
	var out strings.Builder
	out.WriteString(debug.Say(p, m))
	for range r.count {
		if m.Over {
			break
		}
		m, why = d.Go(1)
		must(why)
		out.WriteString(line("--"))
		out.WriteString(debug.Say(p, m))
	}
	return out.String()
}

func farmed(r *request) string {
	o, why := farm.Run(r.tasks, r.count)
	must(why)
	out, why := farm.Report(r.tasks, o)
	must(why)
	return out
}
