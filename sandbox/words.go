package sandbox

import (
	"strconv"
	"strings"

	"paddock/api"
	"paddock/lines"
	"paddock/paths"
)

// Exit codes of what ends a run, or keeps it from being begun.
const (
	codeJob    = 1
	codeDenied = 3
	codeSpent  = 4
	codeFailed = 5
)

// words joins words with one blank between.
func words(l ...string) string { return strings.Join(l, " ") }

// refused is an error by which a job is not begun.
type refused struct {
	why  api.Errno
	flaw api.Flaw // of the script, if it has one
}

// Error is the outcome's message.
func (r refused) Error() string {
	if r.why == api.ErrScript {
		return words("script byte", strconv.Itoa(r.flaw.At), "rule", strconv.Itoa(r.flaw.Rule))
	}
	return words("job code", strconv.Itoa(int(r.why)))
}

// ended is an error that ends a run; why is OK where it is want of something alone.
type ended struct {
	stop    api.StopKind
	code    int
	why     api.Errno
	message string
}

// Error is the outcome's message.
func (e ended) Error() string { return e.message }

// ending is what ended a run that the engine left by a stop, or that came to an error; nil, if it came to its end.
func (r *run) ending(stop api.StopKind, why api.Errno) error {
	switch {
	case stop == api.StopExec:
		return ended{stop, codeDenied, api.ErrDenied, r.denial()}
	case why == api.ErrDenied:
		return ended{api.StopDenied, codeDenied, why, r.denial()}
	case why != api.OK:
		return ended{api.StopFault, codeFailed, why, r.failure(why)}
	}
	switch stop {
	case api.StopFuel, api.StopMemory, api.StopOutput, api.StopEach:
		return ended{stop, codeSpent, api.OK, words("exhausted", wants[stop])}
	}
	return nil
}

// wants has what a run was out of.
var wants = [api.StopCount]string{
	api.StopFuel:   "fuel",
	api.StopMemory: "memory",
	api.StopOutput: "output",
	api.StopEach:   "file",
}

// kinds has the words of calls.
var kinds = [api.CallCount]string{
	api.CallLstat:  "lstat",
	api.CallRead:   "read",
	api.CallCreate: "create",
	api.CallAppend: "append",
	api.CallRename: "rename",
	api.CallExec:   "exec",
}

// reasons has the words of denials.
var reasons = [api.DenyCount]string{
	api.DenyPath:   "path",
	api.DenyPrefix: "prefix",
	api.DenyHold:   "held",
	api.DenyLink:   "link",
	api.DenyExec:   "command",
}

// denial says what the gate has denied.
func (r *run) denial() string {
	e, _ := r.gate.Denied()
	what := quotedPath(e.Call.Path)
	if e.Deny == api.DenyPath || e.Deny == api.DenyExec {
		what = lines.Quote(e.Text) // there is no path
	}
	return words("denied", kinds[e.Call.Kind], what, reasons[e.Deny])
}

// failure says which call failed, if it was one of the file system.
func (r *run) failure(why api.Errno) string {
	said := []string{"failed"}
	if l := r.files.Trace(); len(l) > 0 && l[len(l)-1].Why == why {
		last := l[len(l)-1]
		said = append(said, kinds[last.Kind], quotedPath(last.Path))
	}
	return words(append(said, "code", strconv.Itoa(int(why)))...)
}

func quotedPath(p api.Path) string {
	own, _ := paths.Print(p)
	return lines.Quote(own)
}
