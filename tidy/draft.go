package tidy

import (
	"slices"

	"paddock/api"
)

// part is a step of a program that is being tidied. Whether it is live is told once, as no rule changes it for the steps that are left: what leads to a step that is taken out leads behind it then, and nothing live leads to a dead one.
type part struct {
	api.Step
	live bool
}

// draft is a program that is being tidied. Of each place, the one behind all steps too, it has how many steps go there: jumps, and all.
type draft struct {
	parts         []*part
	jumped, going []int
}

// begin is a draft of steps, of which some are live.
func begin(steps []api.Step, live []bool) *draft {
	d := &draft{}
	for i := range steps {
		d.parts = append(d.parts, &part{steps[i], live[i]})
	}
	return d
}

// list are the steps that are left.
func (d *draft) list() []api.Step {
	out := make([]api.Step, len(d.parts))
	for i, x := range d.parts {
		out[i] = x.Step
	}
	return out
}

// apply does what the first rule asks for that holds of a step, of the first such step; false: none holds of any.
func (d *draft) apply(all []rule) bool {
	d.count()
	for i := range d.parts {
		for _, r := range all {
			if r.holds(d, i) {
				r.does(d, i)
				return true
			}
		}
	}
	return false
}

// count counts who goes where.
func (d *draft) count() {
	places := len(d.parts) + 1
	d.jumped, d.going = make([]int, places), make([]int, places)
	for _, x := range d.parts {
		switch x.Command.Name {
		case 'b', 't', 'T':
			d.jumped[x.To]++
			d.going[x.To]++
		case '{':
			d.going[x.To]++
		}
	}
}

// takeOut takes a step out; the To of what goes nowhere is 0, which no step stands ahead of.
func (d *draft) takeOut(i int) {
	d.parts = slices.Delete(d.parts, i, i+1)
	for _, x := range d.parts {
		if x.To > i {
			x.To--
		}
	}
}
