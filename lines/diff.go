package lines

import "paddock/api"

// Diff is what makes one text of another, line by line, with as many lines kept as can be.
func Diff(a, b string) ([]api.Change, api.Errno) {
	if Count(a) > api.MaxLines || Count(b) > api.MaxLines {
		return nil, api.ErrMany
	}
	old, now := Split(a), Split(b)
	left := newCommon(old, now)
	var out []api.Change
	i, j := 0, 0
	for i < len(old) || j < len(now) {
		switch {
		case i < len(old) && j < len(now) && old[i] == now[j]:
			out = append(out, api.Change{Kind: api.ChangeKeep, Line: old[i]})
			i++
			j++
		case i < len(old) && left.at(i+1, j) == left.at(i, j):
			out = append(out, api.Change{Kind: api.ChangeDrop, Line: old[i]})
			i++
		default:
			out = append(out, api.Change{Kind: api.ChangeAdd, Line: now[j]})
			j++
		}
	}
	return out, api.OK
}

// common has for each two ends of two lists of lines how many lines can be kept of them: MaxLines fits in 16 bits, and a table of them in memory.
type common struct {
	width int
	kept  []uint16
}

func (c common) at(i, j int) uint16 { return c.kept[i*c.width+j] }

func newCommon(a, b []api.Line) common {
	c := common{width: len(b) + 1, kept: make([]uint16, (len(a)+1)*(len(b)+1))}
	x, y := numbered(a, b)
	for i := len(a) - 1; i >= 0; i-- {
		for j := len(b) - 1; j >= 0; j-- {
			most := max(c.at(i+1, j), c.at(i, j+1))
			if x[i] == y[j] {
				most = c.at(i+1, j+1) + 1
			}
			c.kept[i*c.width+j] = most
		}
	}
	return c
}

// numbered gives the same number to the same lines, so that long lines are held against each other once, not once for each pair.
func numbered(a, b []api.Line) ([]int, []int) {
	numbers := map[api.Line]int{}
	number := func(l []api.Line) []int {
		out := make([]int, len(l))
		for i, line := range l {
			n, known := numbers[line]
			if !known {
				n = len(numbers)
				numbers[line] = n
			}
			out[i] = n
		}
		return out
	}
	return number(a), number(b)
}

// Apply makes of a text what changes of it say.
func Apply(s string, l []api.Change) (string, api.Errno) {
	old := Split(s)
	var now []api.Line
	for _, c := range l {
		switch c.Kind {
		case api.ChangeKeep, api.ChangeDrop:
			if len(old) == 0 || old[0] != c.Line {
				return "", api.ErrChange
			}
			old = old[1:]
		case api.ChangeAdd:
		default:
			return "", api.ErrChange
		}
		if c.Kind != api.ChangeDrop {
			now = append(now, c.Line)
		}
	}
	if len(old) > 0 {
		return "", api.ErrChange
	}
	return Join(now), api.OK
}
