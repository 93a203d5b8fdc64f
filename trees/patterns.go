package trees

import "paddock/api"

// part is a part of a pattern: any number of names, or one name, byte by byte.
type part struct {
	many  bool
	marks []mark
}

// mark is what a pattern says of a name's bytes: any number of any bytes, or one of a set.
type mark struct {
	many bool
	set  api.Set
}

// Matches tells whether a path is such as a pattern says; the place of the pattern's fault, where there is one.
func Matches(pattern string, p api.Path) (bool, api.Errno, int) {
	parts, fault, ok := readPattern(pattern)
	if !ok {
		return false, api.ErrPattern, fault
	}
	return says(parts, p), api.OK, 0
}

// Find are the paths of all files in a tree that a pattern says; the place of the pattern's fault, where there is one.
func Find(t api.File, pattern string) ([]api.Path, api.Errno, int) {
	if why, _ := Check(t); why != api.OK {
		return nil, why, 0
	}
	parts, fault, ok := readPattern(pattern)
	if !ok {
		return nil, api.ErrPattern, fault
	}
	var out []api.Path
	for p := range inside(&t) {
		if says(parts, p) {
			out = append(out, fresh(p))
		}
	}
	return out, api.OK, 0
}

// says tells whether parts say a path.
func says(parts []part, p api.Path) bool {
	return fits(parts, p, func(x part) bool { return x.many }, saysName)
}

func saysName(x part, name string) bool {
	return fits(x.marks, []byte(name), func(m mark) bool { return m.many }, func(m mark, b byte) bool {
		return m.set[b/64]>>(b%64)&1 == 1
	})
}

// fits tells whether things are such as forms say: one form a thing, but that one with many is for any number of them. Such a form is given as few as will do: and what is ahead of the last one of them need never be tried again, as it can only have taken less than now.
func fits[F, T any](forms []F, things []T, many func(F) bool, one func(F, T) bool) bool {
	at, open, taken := 0, -1, 0 // open: the last form with many so far, which has taken the things ahead of taken
	for i := 0; i < len(things); {
		switch {
		case at < len(forms) && many(forms[at]):
			open, taken = at, i
			at++
		case at < len(forms) && one(forms[at], things[i]):
			at++
			i++
		case open >= 0:
			taken++
			at, i = open+1, taken
		default:
			return false
		}
	}
	for at < len(forms) && many(forms[at]) {
		at++
	}
	return at == len(forms)
}

// readPattern is a pattern's parts and true; or the place of its fault and false.
func readPattern(s string) ([]part, int, bool) {
	var out []part
	for at := 0; at < len(s) || at == 0; {
		// Behind a part only a / or the text's end comes: so this is of the first byte alone.
		if at == len(s) || s[at] != '/' {
			return nil, at, false
		}
		p, next, ok := readPart(s, at+1)
		if !ok {
			return nil, next, false
		}
		out = append(out, p)
		at = next
	}
	return out, 0, true
}

// readPart is the part that begins at a place, and where it ends; or the place of a fault.
func readPart(s string, at int) (part, int, bool) {
	from := at
	var marks []mark
	for at < len(s) && s[at] != '/' {
		m, next, ok := readMark(s, at)
		if !ok {
			return part{}, next, false
		}
		marks = append(marks, m)
		at = next
	}
	return part{many: s[from:at] == "**", marks: marks}, at, at > from
}

func readMark(s string, at int) (mark, int, bool) {
	switch s[at] {
	case '*':
		return mark{many: true}, at + 1, true
	case '?':
		return mark{set: inverse(api.Set{})}, at + 1, true
	case '[':
		return readBracket(s, at+1)
	}
	b, next, ok := readByte(s, at)
	return mark{set: between(b, b)}, next, ok
}

// readByte is the byte at a place, which a backslash may stand ahead of; or the place of a fault.
func readByte(s string, at int) (byte, int, bool) {
	if at < len(s) && s[at] == '\\' {
		at++
	}
	if at == len(s) || s[at] == '/' {
		return 0, at, false
	}
	return s[at], at + 1, true
}

// readBracket is what stands behind a [ up to its ] .
func readBracket(s string, at int) (mark, int, bool) {
	not := at < len(s) && s[at] == '!'
	if not {
		at++
	}
	var set api.Set
	for first := at; at == first || at >= len(s) || s[at] != ']'; {
		item, next, ok := readItem(s, at)
		if !ok {
			return mark{}, next, false
		}
		for i := range set {
			set[i] |= item[i]
		}
		at = next
	}
	if not {
		set = inverse(set)
	}
	return mark{set: set}, at + 1, true
}

// readItem is a byte, or all from one to another.
func readItem(s string, at int) (api.Set, int, bool) {
	low, at, ok := readByte(s, at)
	if !ok {
		return api.Set{}, at, false
	}
	end := at + 1
	if end >= len(s) || s[at] != '-' || s[end] == ']' {
		return between(low, low), at, true
	}
	high, at, ok := readByte(s, end)
	if !ok {
		return api.Set{}, at, false
	}
	if high < low {
		return api.Set{}, end, false
	}
	return between(low, high), at, true
}

// between is the bytes from one to another.
func between(low, high byte) api.Set {
	var out api.Set
	for b := int(low); b <= int(high); b++ {
		out[b/64] |= 1 << (b % 64)
	}
	return out
}

// inverse is the bytes that are not in a set.
func inverse(s api.Set) api.Set {
	for i := range s {
		s[i] = ^s[i]
	}
	return s
}
