// Package cycles goes through the cycles of a program: it does in a world what the program says, and asks ahead of each step, each look for a match, each byte that is held and each byte that is written whether there is room for it. Layers spec and engine, which tell what a program means and what it does within a quota, share it.
package cycles

import (
	"math"

	"paddock/api"
	"paddock/program"
	"paddock/space"
)

// Unbounded is a bound that nothing comes to.
const Unbounded = math.MaxInt

// Exit codes; those of q and Q are their own.
const (
	codeGone   = 2 // an input was passed over
	codeDenied = 3 // by the world, or as a command would have been run
	codeSpent  = 4
	codeFailed = 5
)

// Bounds are what a run ends at: so many steps, and a quota; and a step ahead of which Stands, if there is one, says so: it is told how many steps are behind, and which one is next.
type Bounds struct {
	Steps  int
	Stands func(done, next int) bool
	api.Quota
}

// Right tells whether a program is that of any script.
func Right(p api.Program) bool {
	for _, extended := range []bool{false, true} {
		if why, _ := program.Check(p, extended); why == api.OK {
			return true
		}
	}
	return false
}

// Run is a program that is run in a world, once.
type Run struct {
	Bounds
	world          World
	list           []api.Step
	does           []command // of each step
	quiet, inPlace bool
	keep           func(api.Effect)

	space  *space.Space
	ranges []stretch          // of each step
	last   *api.Regex         // the expression that was looked for last
	made   bool               // whether a substitution has been made
	whole  bool               // whether the line that was taken last is
	lacks  map[place]struct{} // the places at which an LF lacks
	put    map[target]int     // the bytes of all effects
	input  int                // how many fresh lines were taken
	read   map[string]reading

	how               onward // from where it stands
	next              int    // the step that is looked at
	steps, cost, peak int
	end               ending
}

// New is a run of a right program up to its end, or to the first of its bounds, of which Memory is one of a space. Each effect that is done is handed to keep.
func New(p api.Program, o api.Options, w World, b Bounds, keep func(api.Effect)) *Run {
	r := &Run{Bounds: b, world: w, list: p.Steps, quiet: o.Quiet || p.Quiet, inPlace: o.InPlace, keep: keep, how: printed}
	r.space, _ = space.New(b.Memory)
	r.lacks, r.put = map[place]struct{}{}, map[target]int{}
	byLetter := commands()
	for i := range r.list {
		r.does = append(r.does, byLetter[r.list[i].Command.Name])
	}
	r.beginAnew()
	return r
}

// Go runs it: what it means but for its effects, and the world's error that ended it. A run that stands at a bound of its steps is gone on with, if that is another one now.
func (r *Run) Go() (api.Meaning, api.Errno) {
	if r.end.stop == api.StopLimit {
		r.end = ending{}
	}
	r.end = r.all()
	return api.Meaning{Code: r.end.code, Steps: r.steps, Cost: r.cost, Peak: r.peak, Stop: r.end.stop}, r.end.why
}

// Done is how many steps it has gone.
func (r *Run) Done() int { return r.steps }

// Moment is where it stands when it has run.
func (r *Run) Moment() api.Moment {
	m := api.Moment{Done: r.steps, Next: r.next, Line: r.world.Number(), Pattern: r.space.Pattern(), Hold: r.space.Hold(), Queue: r.space.Queue()}
	if r.end.stop != api.StopLimit {
		m.Next, m.Over, m.Stop, m.Code = len(r.list), true, r.end.stop, r.end.code
	}
	return m
}

// beginAnew is for the first line of another input, where each counts by itself.
func (r *Run) beginAnew() {
	r.read = map[string]reading{}
	r.ranges = nil
	for i := range r.list {
		r.ranges = append(r.ranges, atFirst(&r.list[i].Command))
	}
}

// onward is how one goes on behind a step.
type onward int

const (
	further  onward = iota // with the next step
	away                   // with the step To
	printed                // with the end of the cycle
	silent                 // with that, but nothing is printed
	again                  // likewise, and then with a cycle that takes no line
	quitting               // with the end of the cycle, which is that of the run
	over                   // not at all
)

// ending is why and with which code a run ended, and the world's error, if that was why.
type ending struct {
	stop api.StopKind
	code int
	why  api.Errno
}

// giveUp ends a run wherever it stands.
func giveUp(stop api.StopKind, code int, why api.Errno) { panic(ending{stop, code, why}) }

// asEnding is what was given up with; false, if nothing was. Any other panic is none of ours.
func asEnding(caught any) (ending, bool) {
	e, ok := caught.(ending)
	if caught != nil && !ok {
		panic(caught)
	}
	return e, ok
}

// all goes through all cycles that are left.
func (r *Run) all() (end ending) {
	defer func() {
		if e, given := asEnding(recover()); given {
			end = e
			if e.stop != api.StopLimit {
				r.how = over
			}
		}
	}()
	for r.how != quitting && r.how != over {
		// Where a cycle has begun, the run stood ahead of one of its steps.
		if r.how != further && !r.begin() {
			r.how = over
			break
		}
		r.how = r.cycle()
		r.finish(r.how)
	}
	return r.end
}

// begin begins a cycle; false: there is no line for it.
func (r *Run) begin() bool {
	if r.how != again && !r.take(r.space.Set) {
		return false
	}
	r.how, r.next = further, 0
	return true
}

// cycle goes through the steps, up to what says otherwise.
func (r *Run) cycle() onward {
	for r.next < len(r.list) {
		r.spendStep()
		switch how := r.step(&r.list[r.next].Command); how {
		case further:
			r.next++
		case away:
			r.next = r.list[r.next].To
		default:
			return how
		}
	}
	return printed
}

// step does the command of the step that is looked at, if it is selected.
func (r *Run) step(c *api.Command) onward {
	if r.addressed(c) != c.Not {
		return r.does[r.next](r, c)
	}
	if c.Name == '{' {
		return away
	}
	return further
}

// finish is the end of a cycle.
func (r *Run) finish(how onward) {
	if how == over {
		return
	}
	if how == printed || how == quitting {
		r.printUnlessQuiet()
	}
	r.writeQueue()
}

// take takes the next line, and hands it to what puts it into the pattern space; false: there is none, and the run ends.
func (r *Run) take(put func(string) api.Errno) bool {
	r.writeQueue()
	line, ok, why := r.world.Take()
	r.demand(why)
	if !ok {
		if r.world.Passed() {
			r.end.code = codeGone
		}
		return false
	}
	if r.world.Fresh() {
		r.input++
		r.beginAnew()
	}
	r.made, r.whole = false, line.Whole
	r.held(put(line.Text))
	return true
}
