package farm

import (
	"strconv"
	"strings"

	"paddock/api"
	"paddock/lines"
	"paddock/policy"
	"paddock/trees"
)

// The rules of a line, as Parse tells them.
const (
	ruleWord = 1 + iota
	ruleForm
	ruleTask
	ruleMany
	rulePart
)

// part is the lines of a task that are read together, each with its number in the text.
type part struct {
	lines   []string
	numbers []int
}

func (p *part) text() string { return strings.Join(p.lines, "\n") }

// whole is a fault of the part as one of the whole text; no fault is none there.
func (p *part) whole(f api.Fault) api.Fault {
	if f.Line == 0 {
		return api.Fault{}
	}
	return api.Fault{Line: p.numbers[f.Line-1], Rule: rulePart}
}

// draft is a task that is being read: what it has so far, how many lines of each kind told it, and its parts that were not read yet.
type draft struct {
	task         api.Task
	told         map[string]int
	policy, tree part
}

// finish reads the parts of a task. Each is read once, as a whole: its first fault is that of the lines up to there.
func (d *draft) finish() api.Fault {
	j := &d.task.Job
	var ofPolicy, ofTree api.Fault
	j.Policy, _, ofPolicy = policy.Parse(d.policy.text())
	j.Tree, _, ofTree = trees.Read(d.tree.text())
	return first(d.policy.whole(ofPolicy), d.tree.whole(ofTree))
}

// first is the one of two faults that stands ahead.
func first(a, b api.Fault) api.Fault {
	if b.Line == 0 || a.Line != 0 && a.Line < b.Line {
		return a
	}
	return b
}

// taker takes what stands behind a line's first word; the least rule that it breaks (0: none), those of a task's parts left aside.
type taker func(rest string) int

// reader reads tasks line by line.
type reader struct {
	line   string // that is read
	number int
	drafts []*draft
	now    *draft // that was begun last
	names  map[string]struct{}
}

// Parse reads tasks; the first fault, where there is one.
func Parse(s string) ([]api.Task, api.Errno, api.Fault) {
	r := &reader{names: map[string]struct{}{}}
	fault := r.read(s)
	var out []api.Task
	for _, d := range r.drafts {
		// All lines of parts stand ahead of the line at which the reading ended.
		if f := d.finish(); f.Line != 0 {
			return nil, api.ErrLine, f
		}
		out = append(out, d.task)
	}
	if fault.Line != 0 {
		return nil, api.ErrLine, fault
	}
	return out, api.OK, api.Fault{}
}

// read takes all lines up to the first one that breaks a rule.
func (r *reader) read(s string) api.Fault {
	byWord := r.takers()
	for i, l := range lines.Split(s) {
		if l.Text == "" || l.Text[0] == '#' {
			continue
		}
		r.line, r.number = l.Text, i+1
		word, rest, told := strings.Cut(l.Text, blank)
		take, known := byWord[word]
		if !told || !known {
			return api.Fault{Line: r.number, Rule: ruleWord}
		}
		if rule := take(rest); rule != 0 {
			return api.Fault{Line: r.number, Rule: rule}
		}
	}
	return api.Fault{}
}

// takers has of each first word what takes its lines.
func (r *reader) takers() map[string]taker {
	out := map[string]taker{
		wordTask:   quoted(r.begin),
		wordScript: r.text(wordScript, 1, func(j *api.Job, s string) { j.Script = s }),
		wordInput:  r.text(wordInput, 1, func(j *api.Job, s string) { j.Input = s }),
		wordSuffix: r.text(wordSuffix, 1, func(j *api.Job, s string) { j.Options.Suffix = s }),
		wordName:   r.text(wordName, api.MaxFiles, func(j *api.Job, s string) { j.Names = append(j.Names, s) }),
		wordOption: r.option,
		wordFault:  r.fault,
	}
	for _, word := range []string{"read", "write", "fuel", "memory", "output", "each"} {
		out[word] = r.gather(func(d *draft) *part { return &d.policy })
	}
	for _, word := range []string{"dir", "text", "link"} {
		out[word] = r.gather(func(d *draft) *part { return &d.tree })
	}
	return out
}

// quoted takes a text in quotes that goes to the line's end.
func quoted(keep func(text string) int) taker {
	return func(rest string) int {
		text, n, why, _ := lines.Unquote(rest)
		if why != api.OK || n < len(rest) {
			return ruleForm
		}
		return keep(text)
	}
}

// begin begins the task of a name.
func (r *reader) begin(name string) int {
	_, again := r.names[name]
	if again || !rightName(name) || len(r.drafts) == api.MaxTasks {
		return ruleTask
	}
	r.names[name] = struct{}{}
	r.now = &draft{task: api.Task{Name: name}, told: map[string]int{}}
	r.drafts = append(r.drafts, r.now)
	return 0
}

// tell has a job keep what one more line of a kind tells, if a task was begun, and may have that many of them.
func (r *reader) tell(kind string, most int, keep func(j *api.Job)) int {
	if r.now == nil {
		return ruleTask
	}
	if r.now.told[kind] >= most {
		return ruleMany
	}
	r.now.told[kind]++
	keep(&r.now.task.Job)
	return 0
}

// text takes a text in quotes that a job keeps.
func (r *reader) text(word string, most int, keep func(j *api.Job, s string)) taker {
	return quoted(func(text string) int {
		return r.tell(word, most, func(j *api.Job) { keep(j, text) })
	})
}

// option takes the word of one.
func (r *reader) option(rest string) int {
	for i, o := range optionsOf(&api.Options{}) {
		if o.word == rest {
			return r.tell(wordOption+blank+rest, 1, func(j *api.Job) { *optionsOf(&j.Options)[i].has = true })
		}
	}
	return ruleForm
}

// fault takes the number of a call.
func (r *reader) fault(rest string) int {
	if !isNumber(rest) {
		return ruleForm
	}
	most := api.MaxFiles
	n, err := strconv.Atoi(rest)
	if err != nil || n > api.MaxNumber {
		most = 0 // no task may have it
	}
	return r.tell(wordFault, most, func(j *api.Job) { j.Faults = append(j.Faults, n) })
}

// isNumber tells whether a text is decimal digits without needless noughts.
func isNumber(s string) bool {
	return s != "" && strings.Trim(s, "0123456789") == "" && (s[0] != '0' || s == "0")
}

// gather puts a line behind the others of a part of its task.
func (r *reader) gather(of func(d *draft) *part) taker {
	return func(string) int {
		if r.now == nil {
			return ruleTask
		}
		p := of(r.now)
		p.lines = append(p.lines, r.line)
		p.numbers = append(p.numbers, r.number)
		return 0
	}
}
