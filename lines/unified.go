package lines

import (
	"strconv"

	"paddock/api"
)

const noNewline = "\\ No newline at end of file\n"

// hunk is the changes of a list from one place up to another.
type hunk struct{ from, to int }

// Unified writes what makes one text of another, with so many kept lines around.
func Unified(name, a, b string, around int) (string, api.Errno) {
	if around < 0 || around > api.MaxLines {
		return "", api.ErrRange
	}
	l, why := Diff(a, b)
	if why != api.OK {
		return "", why
	}
	if a == b {
		return "", api.OK
	}
	out := []byte("--- " + Quote(name) + "\n+++ " + Quote(name) + "\n")
	done, old, now := 0, 0, 0
	for _, h := range hunks(l, around) {
		oldAhead, nowAhead := sides(l[done:h.from])
		old, now = old+oldAhead, now+nowAhead
		oldIn, nowIn := sides(l[h.from:h.to])
		out = append(out, "@@ -"+place(old, oldIn)+" +"+place(now, nowIn)+" @@\n"...)
		for _, c := range l[h.from:h.to] {
			out = writeChange(out, c)
		}
		done, old, now = h.to, old+oldIn, now+nowIn
	}
	return string(out), api.OK
}

// hunks gathers the changes that are no ChangeKeep; more than twice around kept ones between them leave a gap, so that no two hunks have a line in common.
func hunks(l []api.Change, around int) []hunk {
	var out []hunk
	for i := range len(l) {
		if l[i].Kind == api.ChangeKeep {
			continue
		}
		last := len(out) - 1
		if last >= 0 && i-out[last].to <= 2*around {
			out[last].to = i + 1
		} else {
			out = append(out, hunk{i, i + 1})
		}
	}
	for k := range len(out) {
		out[k].from = max(out[k].from-around, 0)
		out[k].to = min(out[k].to+around, len(l))
	}
	return out
}

// sides is how many lines changes have of the first text, and of the second one.
func sides(l []api.Change) (int, int) {
	old, now := 0, 0
	for _, c := range l {
		if c.Kind != api.ChangeAdd {
			old++
		}
		if c.Kind != api.ChangeDrop {
			now++
		}
	}
	return old, now
}

// place says where n lines stand that have so many ahead of them.
func place(ahead, n int) string {
	switch n {
	case 0:
		return strconv.Itoa(ahead) + ",0"
	case 1:
		return strconv.Itoa(ahead + 1)
	}
	return strconv.Itoa(ahead+1) + "," + strconv.Itoa(n)
}

func writeChange(out []byte, c api.Change) []byte {
	sign := byte(' ')
	switch c.Kind {
	case api.ChangeDrop:
		sign = '-'
	case api.ChangeAdd:
		sign = '+'
	}
	out = append(out, sign)
	out = append(out, c.Line.Text...)
	out = append(out, lf)
	if !c.Line.Whole {
		out = append(out, noNewline...)
	}
	return out
}
