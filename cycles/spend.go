package cycles

import (
	"paddock/api"
	"paddock/match"
	"paddock/posix"
)

// spendStep is asked ahead of each step that is looked at.
func (r *Run) spendStep() {
	if r.steps == r.Steps || r.Stands != nil && r.Stands(r.steps, r.next) {
		giveUp(api.StopLimit, 0, api.OK)
	}
	if r.cost == r.Fuel {
		giveUp(api.StopFuel, codeSpent, api.OK)
	}
	r.steps++
	r.cost++
}

// look looks for an expression from a place of a text on.
func (r *Run) look(x *api.Regex, text string, from int) ([]api.Span, bool) {
	l, found, steps, why := match.Match(x.Root, text, from, x.Fold, min(r.Fuel-r.cost, api.MaxQuota))
	r.cost += steps
	if why == api.ErrFuel {
		if r.cost == r.Fuel {
			giveUp(api.StopFuel, codeSpent, api.OK)
		}
		// it takes more steps than are ever counted of one look, but without a bound it is done
		l, found, _ = posix.Match(x.Root, text, from, x.Fold)
	}
	return l, found
}

// held is told what the space has answered to a call that may grow it.
func (r *Run) held(why api.Errno) {
	if why == api.ErrMemory {
		giveUp(api.StopMemory, codeSpent, api.OK)
	}
	r.peak = max(r.peak, r.space.Used())
}

// spendBytes is asked ahead of each effect.
func (r *Run) spendBytes(to target, size int) {
	room, stop := r.Each, api.StopEach
	if to.kind == api.EffectOut {
		room, stop = r.Output, api.StopOutput
	}
	if size > room-r.put[to] {
		giveUp(stop, codeSpent, api.OK)
	}
	r.put[to] += size
}

// demand ends the run at an error of the world.
func (r *Run) demand(why api.Errno) {
	switch why {
	case api.OK:
	case api.ErrDenied:
		giveUp(api.StopDenied, codeDenied, why)
	default:
		giveUp(api.StopFault, codeFailed, why)
	}
}
