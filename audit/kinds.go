package audit

import (
	"paddock/api"
	"paddock/paths"
)

// kind is what there is to say of a kind of call: its word; the shape of its entries; whether a call lies where it may; how it is made again. No file system has those without the last three.
type kind struct {
	word  string
	shape shape
	lies  func(b bounds, c api.Call) bool
	again func(r *rerun, c api.Call) (api.Errno, bool)
}

func kinds() [api.CallCount]kind {
	at := shape{rightAt, []field{pathField(), whyField()}}
	move := shape{rightMove, []field{pathField(), toField(), whyField()}}
	return [api.CallCount]kind{
		api.CallLstat:  {"lstat", at, bounds.mayLook, (*rerun).lstat},
		api.CallRead:   {"read", at, bounds.mayRead, (*rerun).read},
		api.CallCreate: {"create", at, bounds.mayWrite, (*rerun).create},
		api.CallAppend: {"append", at, bounds.mayWrite, (*rerun).append},
		api.CallRename: {"rename", move, bounds.mayMove, (*rerun).rename},
		api.CallExec:   {word: "exec"},
	}
}

// isCall tells whether a file system has calls of a kind.
func isCall(k api.CallKind) bool {
	return api.CallLstat <= k && k <= api.CallRename
}

// bounds are the prefixes that calls may lie within.
type bounds struct{ read, write []api.Path }

func (b bounds) mayRead(c api.Call) bool  { return paths.Inside(b.read, c.Path) }
func (b bounds) mayWrite(c api.Call) bool { return paths.Inside(b.write, c.Path) }
func (b bounds) mayLook(c api.Call) bool  { return b.mayRead(c) || b.mayWrite(c) }
func (b bounds) mayMove(c api.Call) bool  { return b.mayWrite(c) && paths.Inside(b.write, c.To) }

// Confined tells whether all calls lie within the prefixes; the number of the first one that does not.
func Confined(l []api.Call, read, write []api.Path) (bool, int) {
	known := kinds()
	for i, c := range l {
		if !isCall(c.Kind) || !known[c.Kind].lies(bounds{read, write}, c) {
			return false, i
		}
	}
	return true, 0
}
