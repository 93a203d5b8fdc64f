package cycles

import (
	"slices"
	"strings"

	"paddock/api"
	"paddock/lines"
)

// World is what a run is over, as layer engine has it.
type World interface {
	Take() (api.Line, bool, api.Errno)
	Last() bool
	Number() int
	Name() string
	Fresh() bool
	Passed() bool
	Put(e api.Effect) api.Errno
	File(name string) (string, api.Errno)
	Exec(command string) api.Errno
}

// Texts is a world that has all of its texts.
type Texts struct {
	inputs   []api.Text
	looked   int    // how many inputs were looked at; the last one of them has the next line
	rest     string // what is left of that
	separate bool
	passed   bool
	line     taken
	files    map[string]*strings.Builder
}

// taken is what is known of the line that was taken last; its number is 0, if none was.
type taken struct {
	input, number int
	last, fresh   bool
}

// Over is a right world as one that can be run over. The files that are written have nothing at the beginning.
func Over(w api.World, written []string, separate bool) *Texts {
	t := &Texts{inputs: slices.Clone(w.Inputs), separate: separate, files: map[string]*strings.Builder{}}
	for _, f := range w.Others {
		if !f.Gone {
			t.add(f.Name, f.Data)
		}
	}
	for _, name := range written {
		if name != stdout {
			t.files[name] = &strings.Builder{}
		}
	}
	t.look()
	return t
}

// look looks for the next line.
func (t *Texts) look() {
	for t.rest == "" && t.looked < len(t.inputs) {
		t.rest = t.inputs[t.looked].Data
		t.passed = t.passed || t.inputs[t.looked].Gone
		t.looked++
	}
}

// Take takes the next line, and looks for the one behind it.
func (t *Texts) Take() (api.Line, bool, api.Errno) {
	if t.rest == "" {
		return api.Line{}, false, api.OK
	}
	text, rest, whole := lines.First(t.rest)
	next := taken{input: t.looked - 1, number: t.line.number + 1}
	if t.separate && t.line.number > 0 && next.input != t.line.input {
		next.number, next.fresh = 1, true
	}
	t.rest = rest
	t.look()
	next.last = t.rest == "" || t.separate && next.input != t.looked-1
	t.line = next
	return api.Line{Text: text, Whole: whole}, true, api.OK
}

// Last tells whether no line is left behind the one that was taken last.
func (t *Texts) Last() bool { return t.line.last }

// Number is that of the line that was taken last.
func (t *Texts) Number() int { return t.line.number }

// Name is that of its input.
func (t *Texts) Name() string {
	if t.line.number == 0 {
		return ""
	}
	return t.inputs[t.line.input].Name
}

// Fresh tells whether it is the first one of another input, where each counts by itself.
func (t *Texts) Fresh() bool { return t.line.fresh }

// Passed tells whether an input that is gone was passed over.
func (t *Texts) Passed() bool { return t.passed }

// Put puts what is written to a file behind what it has.
func (t *Texts) Put(e api.Effect) api.Errno {
	if e.Kind == api.EffectFile {
		t.add(e.Name, e.Text)
	}
	return api.OK
}

func (t *Texts) add(name, text string) {
	f, there := t.files[name]
	if !there {
		f = &strings.Builder{}
		t.files[name] = f
	}
	f.WriteString(text)
}

// File is what a file has now.
func (t *Texts) File(name string) (string, api.Errno) {
	f, there := t.files[name]
	if !there {
		return "", api.ErrNoFile
	}
	return f.String(), api.OK
}

// Exec runs nothing.
func (t *Texts) Exec(string) api.Errno { return api.ErrDenied }
