package front

import (
	"strconv"

	"paddock/api"
	"paddock/args"
	"paddock/audit"
	"paddock/farm"
	"paddock/policy"
	"paddock/trees"
)

// maxSteps is how many steps debug goes at most.
const maxSteps = 1000

// request is what arguments and files tell; each command looks at what it has taken.
type request struct {
	argv     api.Argv
	extended bool
	pattern  string
	count    int

	policy api.Policy
	tree   api.File
	log    []api.Entry
	tasks  []api.Task
	script string
	input  string
}

// taker takes arguments from the front of those that are left: how many, and whether the next one may be so (or need not be there).
type taker func(r *request, l []string) (int, bool)

// reader reads a file; its fault, where there is one.
type reader func(r *request, text string) api.Fault

// takeArgv takes a command line of sed, which all arguments are.
func takeArgv(r *request, l []string) (int, bool) {
	x, why, at := args.Read(l)
	if why != api.OK {
		return at, false
	}
	r.argv = x
	return len(l), true
}

// takeExtended takes -E, if it is told.
func takeExtended(r *request, l []string) (int, bool) {
	if len(l) == 0 || l[0] != "-E" {
		return 0, true
	}
	r.extended = true
	return 1, true
}

// takePattern takes a pattern, right or not.
func takePattern(r *request, l []string) (int, bool) {
	if len(l) == 0 {
		return 0, false
	}
	r.pattern = l[0]
	return 1, true
}

// takeCount takes a number within bounds.
func takeCount(least, most int) taker {
	return func(r *request, l []string) (int, bool) {
		if len(l) == 0 {
			return 0, false
		}
		n, err := strconv.Atoi(l[0])
		if err != nil || strconv.Itoa(n) != l[0] || n < least || n > most {
			return 0, false
		}
		r.count = n
		return 1, true
	}
}

func readPolicy(r *request, text string) (fault api.Fault) {
	r.policy, _, fault = policy.Parse(text)
	return fault
}

func readTree(r *request, text string) (fault api.Fault) {
	r.tree, _, fault = trees.Read(text)
	return fault
}

func readLog(r *request, text string) (fault api.Fault) {
	r.log, _, fault = audit.Read(text)
	return fault
}

func readTasks(r *request, text string) (fault api.Fault) {
	r.tasks, _, fault = farm.Parse(text)
	return fault
}

func readScript(r *request, text string) api.Fault {
	r.script = text
	return api.Fault{}
}

func readInput(r *request, text string) api.Fault {
	r.input = text
	return api.Fault{}
}
