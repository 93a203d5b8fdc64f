package nfa

import "paddock/api"

// uses is which fields a kind of instruction uses.
type uses struct{ known, set, to, group, last, slot bool }

var fields = [api.InstCount]uses{
	api.InstSet:   {known: true, set: true},
	api.InstSplit: {known: true, to: true},
	api.InstJump:  {known: true, to: true},
	api.InstOpen:  {known: true, group: true},
	api.InstClose: {known: true, group: true},
	api.InstClear: {known: true, group: true, last: true},
	api.InstMark:  {known: true, slot: true},
	api.InstMoved: {known: true, slot: true},
	api.InstBack:  {known: true, group: true},
	api.InstBegin: {known: true},
	api.InstEnd:   {known: true},
	api.InstMatch: {known: true},
}

// fits tells whether an instruction of a program has what its kind uses, and nothing else.
func fits(x *api.Inst, p api.Prog) bool {
	if x.Kind >= api.InstCount || !fields[x.Kind].known {
		return false
	}
	u := fields[x.Kind]
	return (u.set || x.Set == api.Set{}) &&
		inRange(u.to, x.To, 0, len(p.Code)-1) &&
		inRange(u.group, x.Group, 1, p.Groups) &&
		inRange(u.last, x.Last, x.Group, p.Groups) &&
		inRange(u.slot, x.Slot, 0, p.Slots-1)
}

// inRange tells whether a number lies between two; one that is not used is 0.
func inRange(used bool, n, least, most int) bool {
	if !used {
		return n == 0
	}
	return least <= n && n <= most
}
