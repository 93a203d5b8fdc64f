package front

import (
	"strconv"

	"paddock/api"
)

// command is one that can be asked for: what takes its arguments, one behind the other; what reads its files; what it does.
type command struct {
	takes []taker
	reads []reader
	does  func(r *request) (string, string, int)
}

// commands are all that can be asked for, by their words.
func commands() map[string]command {
	argv := []taker{takeArgv}
	extended := []taker{takeExtended}
	job := []reader{readPolicy, readTree, readInput}
	script := []reader{readScript}
	return map[string]command{
		"sed":      {argv, job, runs(sayOut)},
		"files":    {argv, job, runs(sayFiles)},
		"log":      {argv, job, runs(sayLog)},
		"diff":     {argv, job, runs(sayDiff)},
		"format":   {extended, script, says(format)},
		"tidy":     {extended, script, says(tidied)},
		"reach":    {extended, script, says(reached)},
		"policy":   {nil, []reader{readPolicy}, says(printPolicy)},
		"tree":     {nil, []reader{readTree}, says(printTree)},
		"find":     {[]taker{takePattern}, []reader{readTree}, says(find)},
		"confined": {nil, []reader{readPolicy, readLog}, says(confined)},
		"debug":    {[]taker{takeExtended, takeCount(0, maxSteps)}, []reader{readScript, readInput}, says(debugged)},
		"farm":     {[]taker{takeCount(1, api.MaxWorkers)}, []reader{readTasks}, says(farmed)},
	}
}

// call is a command, with all that it is asked with.
type call struct {
	command
	request
}

// asked is what arguments and files ask for.
func asked(l, files []string) *call {
	if len(l) == 0 {
		badArgument(0)
	}
	c, known := commands()[l[0]]
	if !known {
		badArgument(0)
	}
	a := &call{command: c}
	a.take(l)
	a.read(files)
	return a
}

func badArgument(i int) { giveUp(codeUsage, "usage", "argument", strconv.Itoa(i)) }

// take takes all arguments behind the command.
func (a *call) take(l []string) {
	at := 1
	for _, t := range a.takes {
		n, ok := t(&a.request, l[at:])
		at += n
		if !ok {
			badArgument(at)
		}
	}
	if at < len(l) {
		badArgument(at)
	}
}

// read reads all files.
func (a *call) read(files []string) {
	if len(files) != len(a.reads) {
		giveUp(codeUsage, "usage", "files")
	}
	for i, read := range a.reads {
		if f := read(&a.request, files[i]); f != (api.Fault{}) {
			giveUp(codeUsage, "file", strconv.Itoa(i), "line", strconv.Itoa(f.Line), "rule", strconv.Itoa(f.Rule))
		}
	}
}
