package marsh

import (
	"slices"
	"strconv"
	"strings"

	"paddock/api"
	"paddock/wood"
)

// Within is a policy with quotas of so much each.
func Within(read, write []api.Path, most int) api.Policy {
	return api.Policy{Read: read, Write: write, Fuel: most, Memory: most, Output: most, Each: most}
}

// Job is a job by chance: a tree with links, prefixes, quotas, calls that fail.
func Job(chance func(int) int) api.Job {
	some := func(l ...api.File) []api.File {
		return slices.DeleteFunc(l, func(api.File) bool { return chance(5) == 0 })
	}
	text := func(name string) api.File { return wood.Text(name, Lines(chance)) }
	d := wood.Dir("d", some(text("f"), text("g"), wood.Link("l", "f"), wood.Link("m", "/s"), text("o"), text("u"))...)
	dev := wood.Dir("dev", some(text("stdout"))...)
	j := api.Job{
		Script:  spelled(chance, Script(chance, 1+chance(6)), []string{"l", "d/l", "d/m", "s", "d", "d/", "..", "d/none/x", "in0/x", "in0", "in1.paddock~"}),
		Options: Options(chance),
		Input:   Lines(chance),
		Tree:    wood.Root(append([]api.File{d, dev}, some(text("f"), text("g"), text("in0"), text("in1"), text("in2"), wood.Link("l", "d"), text("o"), text("s"), text("u"))...)...),
		Policy:  Within(wood.Paths("/"), wood.Paths("/"), 500),
	}
	j.Options.Suffix = []string{"", "", "~", "*.old", "*", "a/b"}[chance(6)]
	usual := []string{"in0", "in1", "in2", "d/f", "-", "./in0", "d/../in1"}
	others := []string{"none", "s", "d/l", "l/f", "d", "", "in0/", "in0/x", "none/x", "in0.paddock~", "o"}
	for range chance(4) {
		name := usual[chance(len(usual))]
		if chance(8) == 0 {
			name = others[chance(len(others))]
		}
		j.Names = append(j.Names, name)
	}
	bounded(chance, &j)
	if at := chance(len(j.Script) + 1); chance(20) == 0 {
		j.Script = j.Script[:at] + []string{"", "k", "}", "\n{", "!", "\\"}[chance(6)] + j.Script[at:]
	}
	return j
}

// bounded gives some jobs fewer prefixes, and less of everything; and has calls fail.
func bounded(chance func(int) int, j *api.Job) {
	prefixes := [][]api.Path{nil, wood.Paths("d"), wood.Paths("d", "in0", "in1", "in2"), wood.Paths("d", "f", "g", "o", "u", "in0", "in1"), wood.Paths("in0", "in0.paddock~", "d f"), wood.Paths("l f")}
	if chance(3) == 0 {
		j.Policy.Read = prefixes[chance(len(prefixes))]
	}
	if chance(3) == 0 {
		j.Policy.Write = prefixes[chance(len(prefixes))]
	}
	for _, n := range []*int{&j.Policy.Fuel, &j.Policy.Memory, &j.Policy.Output, &j.Policy.Each} {
		if chance(6) == 0 {
			*n = chance(40)
		}
	}
	if chance(3) == 0 {
		j.Faults = []int{chance(30), chance(60)}
	}
}

// spelled spells the names of files in a script in other ways, or puts other ones in their places.
func spelled(chance func(int) int, s string, others []string) string {
	all := strings.Split(s, "\n")
	for i, line := range all {
		at := strings.LastIndexByte(line, ' ') + 1
		name := line[at:]
		if at < 2 || !strings.Contains("rRwW", line[at-2:at-1]) || !slices.Contains([]string{"f", "g", "o", "u", "none"}, name) {
			continue
		}
		if chance(8) == 0 {
			name = others[chance(len(others))]
		} else {
			name = []string{name, "./" + name, "/" + name, "d/../" + name, "d/" + name, "../d/" + name, "d//../././" + name}[chance(7)]
		}
		all[i] = line[:at] + name
	}
	return strings.Join(all, "\n")
}

// ShowJob tells all of a job; nil and empty lists are alike.
func ShowJob(j api.Job) string {
	o, p := j.Options, j.Policy
	words := []string{strconv.Quote(j.Script), "input", strconv.Quote(j.Input), "suffix", strconv.Quote(o.Suffix)}
	for _, has := range []bool{o.Quiet, o.Extended, o.Separate, o.InPlace} {
		words = append(words, strconv.FormatBool(has))
	}
	words = append(words, "names")
	for _, name := range j.Names {
		words = append(words, strconv.Quote(name))
	}
	words = append(words, "faults")
	for _, n := range j.Faults {
		words = append(words, strconv.Itoa(n))
	}
	for i, l := range [][]api.Path{p.Read, p.Write} {
		words = append(words, []string{"read", "write"}[i])
		for _, at := range l {
			words = append(words, strconv.Quote(wood.Own(at)))
		}
	}
	for _, n := range []int{p.Fuel, p.Memory, p.Output, p.Each} {
		words = append(words, strconv.Itoa(n))
	}
	return strings.Join(append(words, "tree", wood.Show(j.Tree)), " ")
}

// ShowOutcome tells all of an outcome; nil and empty lists are alike.
func ShowOutcome(o api.Outcome) string {
	var out strings.Builder
	for _, n := range []int{int(o.Why), o.Flaw.At, o.Flaw.Rule, o.Code, int(o.Stop), int(o.Error), o.Steps, o.Cost, o.Peak} {
		out.WriteString(strconv.Itoa(n) + " ")
	}
	out.WriteString(strconv.Quote(o.Out) + " " + strconv.Quote(o.Message) + "\nlog")
	for _, e := range o.Log {
		out.WriteString(" " + ShowCall(e.Call))
		if e.Deny != api.DenyNone {
			out.WriteString("!" + strconv.Itoa(int(e.Deny)) + strconv.Quote(e.Text))
		}
	}
	out.WriteString("\ntrace")
	for _, c := range o.Trace {
		out.WriteString(" " + ShowCall(c))
	}
	out.WriteString("\ntree " + wood.Show(o.Tree))
	return out.String()
}

// ShowCall tells a call in a word.
func ShowCall(c api.Call) string {
	names := [api.CallCount]string{"none", "lstat", "read", "create", "append", "rename", "exec"}
	word := names[c.Kind] + wood.Own(c.Path)
	if len(c.To) > 0 {
		word += ">" + wood.Own(c.To)
	}
	if c.Why != api.OK {
		word += "=" + strconv.Itoa(int(c.Why))
	}
	return word
}

// BlotOutcome writes over all memory that an outcome has.
func BlotOutcome(o api.Outcome) {
	for _, e := range o.Log[:cap(o.Log)] {
		wood.Blot(e.Call.Path)
		wood.Blot(e.Call.To)
	}
	for _, c := range o.Trace[:cap(o.Trace)] {
		wood.Blot(c.Path)
		wood.Blot(c.To)
	}
	clear(o.Log[:cap(o.Log)])
	clear(o.Trace[:cap(o.Trace)])
	wood.Spoil(o.Tree)
}

// RoomyJob is the same job with spare room, full of marks, in each list but its tree's.
func RoomyJob(j api.Job) api.Job {
	j.Policy.Read, j.Policy.Write = wood.Roomy(j.Policy.Read), wood.Roomy(j.Policy.Write)
	j.Names = append(slices.Clip(slices.Clone(j.Names)), roomMark)[:len(j.Names)]
	j.Faults = append(slices.Clip(slices.Clone(j.Faults)), -1)[:len(j.Faults)]
	return j
}

// JobUntouched tells whether what RoomyJob made of a job is as it was made, but for its tree.
func JobUntouched(roomy, j api.Job) bool {
	return wood.Untouched(roomy.Policy.Read, j.Policy.Read) && wood.Untouched(roomy.Policy.Write, j.Policy.Write) &&
		slices.Equal(roomy.Names[:len(j.Names)+1], append(slices.Clone(j.Names), roomMark)) &&
		slices.Equal(roomy.Faults[:len(j.Faults)+1], append(slices.Clone(j.Faults), -1))
}

// BlotJob writes over all memory that a job has, spare room too.
func BlotJob(j api.Job) {
	wood.Spoil(j.Tree)
	wood.BlotAll(j.Policy.Read)
	wood.BlotAll(j.Policy.Write)
	clear(j.Names[:cap(j.Names)])
	clear(j.Faults[:cap(j.Faults)])
}
