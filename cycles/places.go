package cycles

import (
	"paddock/api"
	"paddock/lines"
)

const (
	lf     = "\n"
	stdout = "/dev/stdout"
)

// target is what the bytes of effects are counted by.
type target struct {
	kind api.EffectKind
	name string
}

// place is where texts are printed and written: each input's edit is one of its own, whatever its name.
type place struct {
	target
	input int
}

// out is the standard output, or, in place, the edit of the line's file.
func (r *Run) out() place {
	if r.inPlace {
		return place{target{api.EffectEdit, r.world.Name()}, r.input}
	}
	return place{target: target{kind: api.EffectOut}}
}

// fileOf is the place of a file of w.
func fileOf(name string) place {
	if name == stdout {
		return place{target: target{kind: api.EffectOut}}
	}
	return place{target: target{api.EffectFile, name}}
}

// print prints the pattern space: it lacks its LF, if the line that was taken last does.
func (r *Run) print(to place) {
	if r.whole {
		r.effect(to, r.space.Pattern(), lf)
		delete(r.lacks, to)
		return
	}
	r.effect(to, r.space.Pattern(), "")
	r.lacks[to] = struct{}{}
}

func (r *Run) printUnlessQuiet() {
	if !r.quiet {
		r.print(r.out())
	}
}

// write writes a text as it is.
func (r *Run) write(to place, text string) {
	if text != "" {
		r.effect(to, text, "")
		delete(r.lacks, to)
	}
}

// effect does one, of a text and what stands behind it, with the LF ahead that lacks.
func (r *Run) effect(to place, text, behind string) {
	ahead := ""
	if _, lacking := r.lacks[to]; lacking {
		ahead = lf
	}
	size := len(ahead) + len(text) + len(behind)
	if size == 0 {
		return
	}
	r.spendBytes(to.target, size)
	e := api.Effect{Kind: to.kind, Name: to.name, Text: ahead + text + behind}
	r.demand(r.world.Put(e))
	r.keep(e)
}

// writeQueue writes the queue, which stays till all of it is written.
func (r *Run) writeQueue() {
	for _, x := range r.space.Queue() {
		r.write(r.out(), r.told(x))
	}
	r.space.Take()
}

// told is what an item of the queue is written as.
func (r *Run) told(x api.Item) string {
	switch x.Kind {
	case api.ItemFile:
		return r.file(x.Text)
	case api.ItemLine:
		return r.nextLine(x.Text)
	}
	return x.Text
}

// file is what a file has now.
func (r *Run) file(name string) string {
	text, why := r.world.File(name)
	if why == api.ErrNoFile {
		return ""
	}
	r.demand(why)
	return text
}

// reading is how far R has read a file; the lines are kept, as a file is split again only when it has become another one.
type reading struct {
	text string
	list []api.Line
	done int
}

// nextLine is the next line that R has not read yet of a file, and an LF; nothing, if there is none.
func (r *Run) nextLine(name string) string {
	text := r.file(name)
	x := r.read[name]
	if x.text != text {
		x.text, x.list = text, lines.Split(text)
	}
	line := ""
	if x.done < len(x.list) {
		line = x.list[x.done].Text + lf
		x.done++
	}
	r.read[name] = x
	return line
}
