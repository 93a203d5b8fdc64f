// Package marsh makes scripts, worlds and jobs that are run, and reads the words of what a run does a second time, for the tests of the other packages; the program itself does not call it.
package marsh

import (
	"slices"
	"strconv"
	"strings"

	"paddock/api"
)

// Inputs is a world of inputs alone, with names in1, in2, ...
func Inputs(texts ...string) api.World {
	var w api.World
	for i, s := range texts {
		w.Inputs = append(w.Inputs, api.Text{Name: "in" + strconv.Itoa(i+1), Data: s})
	}
	return w
}

// Source is the inputs of a world, asked for one by one.
type Source []api.Text

// Input is that of this number.
func (l Source) Input(k int) (string, api.Errno) {
	if l[k].Gone {
		return "", api.ErrNoFile
	}
	return l[k].Data, api.OK
}

// Clone shares no list with a world.
func Clone(w api.World) api.World {
	return api.World{Inputs: slices.Clone(w.Inputs), Others: slices.Clone(w.Others)}
}

// roomMark is what spare room is full of.
const roomMark = "room"

// Roomy is the same world with spare room, full of marks, in each list.
func Roomy(w api.World) api.World {
	roomy := func(l []api.Text) []api.Text {
		return append(slices.Clip(slices.Clone(l)), api.Text{Name: roomMark})[:len(l)]
	}
	return api.World{Inputs: roomy(w.Inputs), Others: roomy(w.Others)}
}

// Untouched tells whether the spare room of what Roomy made is as it was made.
func Untouched(w api.World) bool {
	mark := api.Text{Name: roomMark}
	return w.Inputs[:len(w.Inputs)+1][len(w.Inputs)] == mark && w.Others[:len(w.Others)+1][len(w.Others)] == mark
}

// Blot writes over all memory that a world has, spare room too.
func Blot(w api.World) {
	for _, l := range [][]api.Text{w.Inputs, w.Others} {
		l = l[:cap(l)]
		for i := range l {
			l[i] = api.Text{Name: "blot", Data: "blot\n"}
		}
	}
}

// ShowWorld tells all of a world.
func ShowWorld(w api.World) string {
	var out []string
	for _, l := range [][]api.Text{w.Inputs, w.Others} {
		var words []string
		for _, x := range l {
			word := x.Name + " " + strconv.Quote(x.Data)
			if x.Gone {
				word = x.Name + " gone"
			}
			words = append(words, word)
		}
		out = append(out, "("+strings.Join(words, ", ")+")")
	}
	return strings.Join(out, " ")
}

// Show tells all of a meaning; nil and empty lists are alike.
func Show(m api.Meaning) string {
	out := []string{"stop " + strconv.Itoa(int(m.Stop)), "code " + strconv.Itoa(m.Code), "steps " + strconv.Itoa(m.Steps), "cost " + strconv.Itoa(m.Cost), "peak " + strconv.Itoa(m.Peak)}
	for _, e := range m.Effects {
		out = append(out, strconv.Itoa(int(e.Kind))+" "+strconv.Quote(e.Name)+" "+strconv.Quote(e.Text))
	}
	return strings.Join(out, "; ")
}

// ShowMoment tells all of a moment; nil and empty lists are alike.
func ShowMoment(m api.Moment) string {
	out := []string{"done " + strconv.Itoa(m.Done), "next " + strconv.Itoa(m.Next), "line " + strconv.Itoa(m.Line), strconv.Quote(m.Pattern), strconv.Quote(m.Hold), "over " + strconv.FormatBool(m.Over), "stop " + strconv.Itoa(int(m.Stop)), "code " + strconv.Itoa(m.Code)}
	for _, x := range m.Queue {
		out = append(out, strconv.Itoa(int(x.Kind))+" "+strconv.Quote(x.Text))
	}
	return strings.Join(out, "; ")
}
