package script

import (
	"slices"

	"paddock/api"
)

// whole tells which command is at fault by the whole script, and which rule it breaks (0: none is). A } stands where a { is open.
func whole(l []api.Command) (number, rule int) {
	for _, look := range []struct {
		at   func([]api.Command) int
		rule int
	}{{unclosed, api.RuleClose}, {twice, api.RuleTwice}, {astray, api.RuleTarget}} {
		if at := look.at(l); at >= 0 {
			return at, look.rule
		}
	}
	return 0, 0
}

// unclosed is the number of the first { that is not closed; -1: there is none.
func unclosed(l []api.Command) int {
	var open []int
	for i := range l {
		switch l[i].Name {
		case '{':
			open = append(open, i)
		case '}':
			open = open[:len(open)-1]
		}
	}
	if len(open) == 0 {
		return -1
	}
	return open[0]
}

// twice is the number of the first : whose label stands at one ahead; -1: there is none.
func twice(l []api.Command) int {
	stood := map[string]struct{}{}
	for i := range l {
		if l[i].Name != ':' {
			continue
		}
		if _, again := stood[l[i].Text]; again {
			return i
		}
		stood[l[i].Text] = struct{}{}
	}
	return -1
}

// astray is the number of the first jump to a label that is none; -1: there is none.
func astray(l []api.Command) int {
	labels := map[string]struct{}{"": {}} // an empty one leads to the end
	for i := range l {
		if l[i].Name == ':' {
			labels[l[i].Text] = struct{}{}
		}
	}
	return slices.IndexFunc(l, func(c api.Command) bool {
		_, told := labels[c.Text]
		return !told && (c.Name == 'b' || c.Name == 't' || c.Name == 'T')
	})
}
