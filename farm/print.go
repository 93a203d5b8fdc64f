package farm

import (
	"strconv"
	"strings"

	"paddock/api"
	"paddock/lines"
	"paddock/policy"
	"paddock/trees"
)

const blank = " "

// The first words of lines that neither a policy nor a tree has.
const (
	wordTask   = "task"
	wordScript = "script"
	wordInput  = "input"
	wordSuffix = "suffix"
	wordOption = "option"
	wordName   = "name"
	wordFault  = "fault"
)

// option is one that a job has or has not: its word, and where that stands.
type option struct {
	word string
	has  *bool
}

// optionsOf are those of a job, in the order in which they are written.
func optionsOf(o *api.Options) [4]option {
	return [4]option{
		{"quiet", &o.Quiet},
		{"extended", &o.Extended},
		{"separate", &o.Separate},
		{"inplace", &o.InPlace},
	}
}

// Print writes tasks.
func Print(l []api.Task) (string, api.Errno) {
	if !right(l) {
		return "", api.ErrTask
	}
	var out strings.Builder
	for _, x := range l {
		write(&out, x)
	}
	return out.String(), api.OK
}

// right tells whether tasks may be.
func right(l []api.Task) bool {
	if len(l) > api.MaxTasks {
		return false
	}
	seen := map[string]struct{}{}
	for _, x := range l {
		seen[x.Name] = struct{}{}
		if !rightName(x.Name) || !rightJob(x.Job) {
			return false
		}
	}
	return len(seen) == len(l)
}

func rightName(s string) bool { return s != "" && len(s) <= api.MaxName }

func rightJob(j api.Job) bool {
	if policy.Check(j.Policy) != api.OK || len(j.Names) > api.MaxFiles || len(j.Faults) > api.MaxFiles {
		return false
	}
	for _, n := range j.Faults {
		if n < 0 || n > api.MaxNumber {
			return false
		}
	}
	why, _ := trees.Check(j.Tree)
	return why == api.OK
}

// write writes a right task.
func write(out *strings.Builder, x api.Task) {
	j := x.Job
	quoted := func(word, text string) { out.WriteString(line(word, lines.Quote(text))) }
	quoted(wordTask, x.Name)
	quoted(wordScript, j.Script)
	quoted(wordInput, j.Input)
	quoted(wordSuffix, j.Options.Suffix)
	for _, o := range optionsOf(&j.Options) {
		if *o.has {
			out.WriteString(line(wordOption, o.word))
		}
	}
	for _, name := range j.Names {
		quoted(wordName, name)
	}
	for _, n := range j.Faults {
		out.WriteString(line(wordFault, strconv.Itoa(n)))
	}
	may, _ := policy.Print(j.Policy)
	files, _ := trees.Print(j.Tree)
	out.WriteString(may)
	out.WriteString(files)
}

// line is words with a blank between, and an LF.
func line(words ...string) string { return strings.Join(words, blank) + "\n" }
