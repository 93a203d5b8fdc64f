package sandbox

import (
	"strings"

	"paddock/api"
	"paddock/gate"
	"paddock/inplace"
	"paddock/input"
)

// stdin is what the standard input is called among the names.
const stdin = "-"

// source has a job's inputs: each is read when it is asked for, through the gate.
type source struct {
	gate  *gate.Gate
	names []string
	stdin string
}

// Input is the text of an input.
func (s source) Input(k int) (string, api.Errno) {
	if s.names[k] == stdin {
		return s.stdin, api.OK
	}
	return s.gate.Read(s.names[k])
}

// world is what the engine sees of a job: the lines of its inputs, where effects go, and the gate ahead of all files.
type world struct {
	*input.Input
	gate     *gate.Gate
	names    []string
	options  api.Options
	each     int // bytes of an edit, at most
	edit     *inplace.Edit
	out      strings.Builder
	separate bool
}

// newWorld is that of a job; its first input is read.
func newWorld(j api.Job, g *gate.Gate) *world {
	names := j.Names
	if len(names) == 0 {
		names = []string{stdin}
	}
	separate := j.Options.Separate || j.Options.InPlace
	lines := input.New(source{g, names, j.Input}, len(names), separate)
	return &world{Input: lines, gate: g, names: names, options: j.Options, each: j.Policy.Each, separate: separate}
}

// Take takes the next line; with the first one of an input that is edited in place its edit begins.
func (w *world) Take() (api.Line, bool, api.Errno) {
	line, ok, why := w.Input.Take()
	if ok && w.options.InPlace && w.Number() == 1 {
		why = w.turn()
	}
	if why != api.OK {
		return api.Line{}, false, why
	}
	return line, ok, api.OK
}

// turn closes the edit that is open, and begins that of the line's input. The standard input has none.
func (w *world) turn() api.Errno {
	if why := w.close(); why != api.OK || w.Name() == stdin {
		return why
	}
	e, why := inplace.New(w.gate, w.Name(), w.Data(), w.options.Suffix, w.each)
	w.edit = e
	return why
}

// close makes the file that is edited what was put, if an edit is open.
func (w *world) close() api.Errno {
	if w.edit == nil {
		return api.OK
	}
	e := w.edit
	w.edit = nil
	return e.Close()
}

// Name is that of the input of the line that was taken last.
func (w *world) Name() string {
	if w.Number() == 0 {
		return ""
	}
	return w.names[w.At()]
}

// Fresh tells whether the line that was taken last is the first one of another input, where each counts by itself.
func (w *world) Fresh() bool { return w.separate && w.Input.Fresh() }

// Put does an effect.
func (w *world) Put(e api.Effect) api.Errno {
	switch {
	case e.Kind == api.EffectFile:
		return w.gate.Append(e.Name, e.Text)
	case e.Kind == api.EffectEdit && w.edit != nil:
		return w.edit.Put(e.Text)
	}
	w.out.WriteString(e.Text)
	return api.OK
}

// File is what a file has now.
func (w *world) File(name string) (string, api.Errno) { return w.gate.Read(name) }

// Exec asks for a command, which is denied.
func (w *world) Exec(command string) api.Errno { return w.gate.Exec(command) }
