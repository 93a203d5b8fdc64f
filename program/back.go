package program

import (
	"slices"
	"strconv"

	"paddock/api"
)

// Back is a script of a program.
func Back(p api.Program, extended bool) (api.Script, api.Errno) {
	if why, _ := Check(p, extended); why != api.OK {
		return api.Script{}, why
	}
	return api.Script{Commands: commandsOf(Copy(p).Steps), Quiet: p.Quiet, Extended: extended}, api.OK
}

// commandsOf are the commands of the script that the steps of a right program come back as.
func commandsOf(l []api.Step) []api.Command {
	ends, labels := blockEnds(l), targets(l)
	var out []api.Command
	for place := range len(l) + 1 {
		out = append(out, slices.Repeat([]api.Command{{Name: '}'}}, ends[place])...)
		if number, gone := labels[place]; gone {
			out = append(out, api.Command{Name: ':', Text: label(number)})
		}
		if place == len(l) {
			break
		}
		c := l[place].Command
		if number, gone := labels[l[place].To]; gone && jumps(c.Name) {
			c.Text = label(number)
		}
		out = append(out, c)
	}
	return out
}

// blockEnds has of each place how many blocks end there.
func blockEnds(l []api.Step) map[int]int {
	out := map[int]int{}
	for i := range l {
		if l[i].Command.Name == '{' {
			out[l[i].To]++
		}
	}
	return out
}

// targets has of each place that a jump goes to its number among them, from 1 on; the end needs no label, and is none of them.
func targets(l []api.Step) map[int]int {
	out := map[int]int{}
	for i := range l {
		if jumps(l[i].Command.Name) && l[i].To < len(l) {
			out[l[i].To] = 0
		}
	}
	count := 0
	for place := range l {
		if _, gone := out[place]; gone {
			count++
			out[place] = count
		}
	}
	return out
}

func label(number int) string { return "l" + strconv.Itoa(number) }
