package marsh

import (
	"strconv"
	"strings"

	"paddock/api"
	"paddock/lines"
	"paddock/match"
	"paddock/posix"
	"paddock/subst"
)

// line is one of the input, with all that is to be known of it ahead of a run.
type line struct {
	api.Line
	file   string
	input  int
	number int
	last   bool
	fresh  bool
}

// open is where a range stands: 0, not open; -1, open by an expression or by the last line; else the line to which it is open.
type open map[int]int

// reading goes through a run by the words of the chapter. All is kept as plainly as can be.
type reading struct {
	course     Course
	p          api.Program
	o          api.Options
	files      []api.Text
	input      []line
	taken      int // how many lines were
	done       int
	p1, h1     string // both spaces
	queue      []api.Item
	ranges     open
	last       *api.Regex
	made       bool
	lacking    []string // the places at which an LF lacks
	readByR    map[string]int
	isOver     bool
	passedGone bool
}

// great is how many bytes both spaces have when a course is not read further.
const great = 4000

// Read is the course of a right program in a right world, up to so many steps, or to spaces that have become great.
func Read(p api.Program, o api.Options, w api.World, most int) Course {
	r := &reading{p: p, o: o, input: laid(w, o.Separate || o.InPlace)}
	for _, x := range w.Inputs {
		r.passedGone = r.passedGone || x.Gone
	}
	for _, x := range w.Others {
		if !x.Gone {
			r.files = append(r.files, x)
		}
	}
	for _, name := range p.Files {
		if name != "/dev/stdout" {
			*r.file(name) = api.Text{Name: name}
		}
	}
	r.anew()
	r.all(most)
	return r.course
}

// laid are the lines of all inputs.
func laid(w api.World, separate bool) []line {
	var out []line
	for i, x := range w.Inputs {
		for _, l := range lines.Split(x.Data) {
			out = append(out, line{Line: l, file: x.Name, input: i, number: len(out) + 1})
		}
	}
	for i := range out {
		begins := i > 0 && out[i-1].input != out[i].input
		out[i].last = i == len(out)-1 || separate && out[i+1].input != out[i].input
		if !separate {
			continue
		}
		out[i].fresh = begins
		if out[i].number = 1; i > 0 && !begins {
			out[i].number = out[i-1].number + 1
		}
	}
	return out
}

// file is the file of a name, which comes to be.
func (r *reading) file(name string) *api.Text {
	for i := range r.files {
		if r.files[i].Name == name {
			return &r.files[i]
		}
	}
	r.files = append(r.files, api.Text{Name: name})
	return &r.files[len(r.files)-1]
}

func (r *reading) anew() {
	r.ranges, r.readByR = open{}, map[string]int{}
	for i, s := range r.p.Steps {
		if s.Command.First.Kind == api.AddrLine && s.Command.First.N == 0 {
			r.ranges[i] = -1
		}
	}
}

// now is the line that was taken last.
func (r *reading) now() line { return r.input[r.taken-1] }

func (r *reading) event(e Event) { r.course.Events = append(r.course.Events, e) }

// held notes a call of the space that has been made.
func (r *reading) held() {
	used := len(r.p1) + len(r.h1)
	for _, x := range r.queue {
		used += len(x.Text)
	}
	r.event(Event{Kind: Held, N: used})
}

func (r *reading) moment(next int) api.Moment {
	m := api.Moment{Done: r.done, Next: next, Pattern: r.p1, Hold: r.h1, Queue: append([]api.Item(nil), r.queue...)}
	if r.taken > 0 {
		m.Line = r.now().number
	}
	return m
}

// ends notes that the run has come to its end.
func (r *reading) ends(stop api.StopKind, code int) {
	r.isOver = true
	r.course.End = api.Moment{Stop: stop, Code: code}
}

// all goes through cycles till the run ends, or too many steps have been looked at.
func (r *reading) all(most int) {
	for anew := true; !r.isOver && !r.course.Cut; {
		if anew {
			if r.taken == len(r.input) {
				code := 0
				if r.passedGone {
					code = 2
				}
				r.ends(api.StopNone, code)
				break
			}
			r.takeLine(false)
		}
		anew = r.cycle(most)
	}
	end := r.moment(len(r.p.Steps))
	end.Over, end.Stop, end.Code = true, r.course.End.Stop, r.course.End.Code
	r.course.End = end
}

// takeLine takes a line, as P or behind P.
func (r *reading) takeLine(join bool) {
	r.writeQueue()
	r.taken++
	if r.now().fresh {
		r.anew()
	}
	r.made = false
	if join {
		r.p1 += "\n" + r.now().Text
	} else {
		r.p1 = r.now().Text
	}
	r.held()
}

// cycle goes through one, and tells whether the next one takes a line.
func (r *reading) cycle(most int) bool {
	for i := 0; i < len(r.p.Steps); {
		r.event(Event{Kind: Stepped, Moment: r.moment(i)})
		if r.done == most || len(r.p1)+len(r.h1) > great {
			r.course.Cut = true
			return false
		}
		r.done++
		c := r.p.Steps[i].Command
		if r.isSelected(i) == c.Not {
			i = r.behindUnselected(i)
			continue
		}
		next, way := r.do(i, c)
		switch way {
		case "end":
			r.endCycle(true)
			return true
		case "silent":
			r.endCycle(false)
			return true
		case "again":
			r.endCycle(false)
			return false
		case "quit":
			r.endCycle(true)
			r.ends(api.StopQuit, max(0, c.N))
			return false
		case "stop":
			return false
		}
		i = next
	}
	r.endCycle(true)
	return true
}

func (r *reading) behindUnselected(i int) int {
	if r.p.Steps[i].Command.Name == '{' {
		return r.p.Steps[i].To
	}
	return i + 1
}

func (r *reading) quiet() bool { return r.o.Quiet || r.p.Quiet }

func (r *reading) endCycle(print bool) {
	if print && !r.quiet() {
		r.print(r.out())
	}
	r.writeQueue()
}

func (r *reading) writeQueue() {
	for _, x := range r.queue {
		switch x.Kind {
		case api.ItemText:
			r.write(r.out(), x.Text)
		case api.ItemFile:
			r.write(r.out(), r.file(x.Text).Data)
		case api.ItemLine:
			l := lines.Split(r.file(x.Text).Data)
			if n := r.readByR[x.Text]; n < len(l) {
				r.readByR[x.Text]++
				r.write(r.out(), l[n].Text+"\n")
			}
		}
	}
	r.queue = nil
}

// place is where something is printed: an effect without a text, and what tells the place apart.
type place struct {
	effect api.Effect
	key    string
}

func (r *reading) out() place {
	if r.o.InPlace {
		return place{api.Effect{Kind: api.EffectEdit, Name: r.now().file}, "edit " + strconv.Itoa(r.now().input)}
	}
	return place{api.Effect{Kind: api.EffectOut}, "out"}
}

func named(name string) place {
	if name == "/dev/stdout" {
		return place{api.Effect{Kind: api.EffectOut}, "out"}
	}
	return place{api.Effect{Kind: api.EffectFile, Name: name}, "file " + name}
}

func (r *reading) print(to place) {
	text := r.p1
	if r.now().Whole {
		text += "\n"
	}
	r.put(to, text)
	if !r.now().Whole {
		r.lacking = append(r.lacking, to.key)
	}
}

func (r *reading) write(to place, text string) {
	if text != "" {
		r.put(to, text)
	}
}

// put does an effect; the place lacks nothing then.
func (r *reading) put(to place, text string) {
	var left []string
	for _, key := range r.lacking {
		if key != to.key {
			left = append(left, key)
		}
	}
	if len(left) < len(r.lacking) {
		text = "\n" + text
	}
	r.lacking = left
	if text == "" {
		return
	}
	to.effect.Text = text
	r.event(Event{Kind: Wrote, Effect: to.effect})
	if to.effect.Kind == api.EffectFile {
		r.file(to.effect.Name).Data += text
	}
}

// look notes looks for an expression from some places.
func (r *reading) look(x *api.Regex, from []int) {
	for _, at := range from {
		n, _ := match.Steps(x.Root, r.p1, at, x.Fold, api.MaxQuota)
		r.event(Event{Kind: Looked, N: n})
	}
}

// which is the expression that is looked for: nil, if none is.
func (r *reading) which(x api.Regex) *api.Regex {
	if !x.Last {
		r.last = &x
	}
	return r.last
}

func (r *reading) matches(x api.Regex) bool {
	which := r.which(x)
	if which == nil {
		return false
	}
	r.look(which, []int{0})
	_, ok, _ := posix.Match(which.Root, r.p1, 0, which.Fold)
	return ok
}

func (r *reading) isSelected(i int) bool {
	c := r.p.Steps[i].Command
	if c.Second.Kind == api.AddrNone {
		return c.First.Kind == api.AddrNone || r.isAt(c.First)
	}
	l := r.now().number
	switch to := r.ranges[i]; {
	case to > 0:
		if l >= to {
			r.ranges[i] = 0
		}
		return l <= to
	case to < 0:
		if c.Second.Kind == api.AddrLast && r.now().last || c.Second.Kind == api.AddrRegex && r.matches(c.Second.Regex) {
			r.ranges[i] = 0
		}
		return true
	}
	if !r.isAt(c.First) {
		return false
	}
	r.ranges[i] = r.opens(c.Second)
	return true
}

// opens is where a range stands that begins at the line.
func (r *reading) opens(second api.Addr) int {
	l, n := r.now().number, second.N
	switch second.Kind {
	case api.AddrLine:
		if n > l {
			return n
		}
	case api.AddrPlus:
		if n > 0 {
			return l + n
		}
	case api.AddrMultiple:
		if n > 0 && l%n > 0 {
			return (l/n + 1) * n
		}
	case api.AddrLast:
		if !r.now().last {
			return -1
		}
	case api.AddrRegex:
		return -1
	}
	return 0
}

func (r *reading) isAt(a api.Addr) bool {
	l := r.now().number
	switch a.Kind {
	case api.AddrLine:
		return l == a.N
	case api.AddrLast:
		return r.now().last
	case api.AddrStep:
		if a.Step == 0 {
			return l == a.N
		}
		return l >= a.N && (l-a.N)%a.Step == 0
	}
	return r.matches(a.Regex)
}

// do does a command: the next step, or a way to go on otherwise.
func (r *reading) do(i int, c api.Command) (int, string) {
	switch c.Name {
	case '=':
		r.write(r.out(), strconv.Itoa(r.now().number)+"\n")
	case 'F':
		r.write(r.out(), r.now().file+"\n")
	case 'i':
		r.write(r.out(), c.Text)
	case 'l':
		width := c.N
		if width == -1 {
			width = 70
		}
		text, _ := lines.List(r.p1, width)
		r.write(r.out(), text)
	case 'p':
		r.print(r.out())
	case 'w':
		r.print(named(c.Text))
	case 'P':
		r.printFirst(r.out())
	case 'W':
		r.printFirst(named(c.Text))
	case 'a', 'r', 'R':
		kinds := map[byte]api.ItemKind{'a': api.ItemText, 'r': api.ItemFile, 'R': api.ItemLine}
		r.queue = append(r.queue, api.Item{Kind: kinds[c.Name], Text: c.Text})
		r.held()
	case 'g', 'G', 'h', 'H', 'x', 'z', 'y':
		r.turn(c)
	case 's':
		return i + 1, r.substitute(c)
	default:
		return r.lead(i, c)
	}
	return i + 1, ""
}

func (r *reading) printFirst(to place) {
	if at := strings.Index(r.p1, "\n"); at >= 0 {
		r.write(to, r.p1[:at+1])
		return
	}
	r.print(to)
}

// turn does what changes the spaces alone.
func (r *reading) turn(c api.Command) {
	switch c.Name {
	case 'g':
		r.p1 = r.h1
	case 'G':
		r.p1 += "\n" + r.h1
	case 'h':
		r.h1 = r.p1
	case 'H':
		r.h1 += "\n" + r.p1
	case 'x':
		r.p1, r.h1 = r.h1, r.p1
	case 'z':
		r.p1 = ""
	case 'y':
		r.p1 = subst.Table(c.Text, c.Other, r.p1)
	}
	r.held()
}

func (r *reading) substitute(c api.Command) string {
	x := r.which(c.Regex)
	if x == nil {
		return ""
	}
	places, _ := subst.Tries(c.Subst, x.Root, r.p1, x.Fold)
	r.look(x, places)
	text, count, _ := subst.Apply(c.Subst, x.Root, r.p1, x.Fold)
	if count == 0 {
		return ""
	}
	r.p1, r.made = text, true
	r.held()
	if c.Subst.Exec {
		r.ends(api.StopExec, 3)
		return "stop"
	}
	if c.Subst.Print {
		r.print(r.out())
	}
	if c.Subst.File != "" {
		r.print(named(c.Subst.File))
	}
	return ""
}

// lead does what says where to go on.
func (r *reading) lead(i int, c api.Command) (int, string) {
	to := r.p.Steps[i].To
	switch c.Name {
	case 'b':
		return to, ""
	case 't':
		if r.made {
			r.made = false
			return to, ""
		}
	case 'T':
		if !r.made {
			return to, ""
		}
		r.made = false
	case 'n', 'N':
		if r.now().last {
			return 0, "end"
		}
		if c.Name == 'n' && !r.quiet() {
			r.print(r.out())
		}
		r.takeLine(c.Name == 'N')
	case 'c':
		if c.Second.Kind == api.AddrNone || c.Not || r.ranges[i] == 0 {
			r.write(r.out(), c.Text)
		}
		return r.emptied()
	case 'd':
		return r.emptied()
	case 'D':
		at := strings.Index(r.p1, "\n")
		if at < 0 {
			return r.emptied()
		}
		r.p1 = r.p1[at+1:]
		r.held()
		return 0, "again"
	case 'q':
		return 0, "quit"
	case 'Q':
		r.ends(api.StopQuit, max(0, c.N))
		return 0, "stop"
	case 'e':
		r.ends(api.StopExec, 3)
		return 0, "stop"
	}
	return i + 1, ""
}

func (r *reading) emptied() (int, string) {
	r.p1 = ""
	r.held()
	return 0, "silent"
}
