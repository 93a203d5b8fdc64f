// Package lines: texts as lines: see ../../shared/DOC.md and doc/01-lines.md.
package lines

import "paddock/api"

const lf = '\n'

// Split takes a text apart into lines; the last one is not Whole, if no LF ends it.
func Split(s string) []api.Line {
	var out []api.Line
	from := 0
	for i := range len(s) {
		if s[i] == lf {
			out = append(out, api.Line{Text: s[from:i], Whole: true})
			from = i + 1
		}
	}
	if from < len(s) {
		out = append(out, api.Line{Text: s[from:]})
	}
	return out
}

// Join puts lines together to a text.
func Join(l []api.Line) string {
	var out []byte
	for _, line := range l {
		out = append(out, line.Text...)
		if line.Whole {
			out = append(out, lf)
		}
	}
	return string(out)
}

// Count is how many lines a text has.
func Count(s string) int {
	n := 0
	for i := range len(s) {
		if s[i] == lf {
			n++
		}
	}
	if s != "" && s[len(s)-1] != lf {
		n++
	}
	return n
}

// First is what stands ahead of the first LF, and what behind; false: there is none.
func First(s string) (string, string, bool) {
	for i := range len(s) {
		if s[i] == lf {
			return s[:i], s[i+1:], true
		}
	}
	return s, "", false
}
