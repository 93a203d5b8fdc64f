// Package paths: paths as texts and in their normal form: see ../../shared/DOC.md and doc/02-paths.md.
package paths

import (
	"slices"

	"paddock/api"
)

// Name tells whether a text may be a file's name.
func Name(s string) bool {
	if s == "" || len(s) > api.MaxName || s == "." || s == ".." {
		return false
	}
	for i := range len(s) {
		if s[i] == '/' || s[i] == 0 {
			return false
		}
	}
	return true
}

// Right tells whether a path may be so.
func Right(p api.Path) bool {
	for _, name := range p {
		if !Name(name) {
			return false
		}
	}
	return size(p) <= api.MaxPath
}

// size is how many bytes a path's own text has.
func size(p api.Path) int {
	if len(p) == 0 {
		return 1
	}
	n := 0
	for _, name := range p {
		n += 1 + len(name)
	}
	return n
}

// fresh copies names into memory of their own, without any spare room of others.
func fresh(p api.Path) api.Path {
	return append(api.Path(nil), p...)
}

// Normal is where a text leads from a path, and whether it asks for a folder.
func Normal(from api.Path, s string) (api.Path, bool, api.Errno) {
	if !Right(from) {
		return nil, false, api.ErrPath
	}
	if len(s) > api.MaxPath {
		return nil, false, api.ErrLong
	}
	if s == "" {
		return nil, false, api.ErrPath
	}
	if s[0] == '/' {
		from = nil
	}
	out := fresh(from)
	folder := false
	for _, part := range parts(s) {
		if !mayStand(part) {
			return nil, false, api.ErrPath
		}
		folder = part == "" || part == "." || part == ".."
		if !folder {
			out = append(out, part)
		} else if part == ".." && len(out) > 0 {
			out = out[:len(out)-1]
		}
	}
	if size(out) > api.MaxPath {
		return nil, false, api.ErrLong
	}
	return out, folder, api.OK
}

// parts is what stands between the /s of a text, ahead of the first and behind the last one.
func parts(s string) []string {
	var out []string
	from := 0
	for i := range len(s) {
		if s[i] == '/' {
			out = append(out, s[from:i])
			from = i + 1
		}
	}
	return append(out, s[from:])
}

// mayStand tells whether a part leads anywhere: such as leave the place or take a name off do too.
func mayStand(part string) bool {
	return part == "" || part == "." || part == ".." || Name(part)
}

// Print is a path's own text, from the root on.
func Print(p api.Path) (string, api.Errno) {
	if !Right(p) {
		return "", api.ErrPath
	}
	if len(p) == 0 {
		return "/", api.OK
	}
	var out []byte
	for _, name := range p {
		out = append(out, '/')
		out = append(out, name...)
	}
	return string(out), api.OK
}

// Relative is a text that leads to a path from another one.
func Relative(from, p api.Path) (string, api.Errno) {
	if !Right(from) || !Right(p) {
		return "", api.ErrPath
	}
	both := shared(from, p)
	if both == len(from) && both == len(p) {
		return ".", api.OK
	}
	var out []byte
	for range len(from) - both {
		out = append(out, "../"...)
	}
	for _, name := range p[both:] {
		out = append(out, name...)
		out = append(out, '/')
	}
	out = out[:len(out)-1]
	if len(out) > api.MaxPath {
		return "", api.ErrLong
	}
	return string(out), api.OK
}

// shared is how many names two paths both begin with.
func shared(a, b api.Path) int {
	n := 0
	for n < len(a) && n < len(b) && a[n] == b[n] {
		n++
	}
	return n
}

// Parent is the path ahead of its last name, and that; false: it is the root.
func Parent(p api.Path) (api.Path, string, bool) {
	if len(p) == 0 {
		return nil, "", false
	}
	last := len(p) - 1
	return fresh(p[:last]), p[last], true
}

// Join is a path and one name more.
func Join(p api.Path, name string) (api.Path, api.Errno) {
	if !Right(p) || !Name(name) {
		return nil, api.ErrPath
	}
	out := append(fresh(p), name)
	if size(out) > api.MaxPath {
		return nil, api.ErrLong
	}
	return out, api.OK
}

// Within tells whether a path lies at or below another one.
func Within(p, prefix api.Path) bool {
	return shared(p, prefix) == len(prefix)
}

// Compare is -1, 0 or 1: by the first names that are unlike, a shorter one ahead of those that go on from it.
func Compare(a, b api.Path) int {
	return slices.Compare(a, b)
}

// Cover is the same prefixes without such as lie within another one, rising.
func Cover(l []api.Path) []api.Path {
	rising := append([]api.Path(nil), l...)
	slices.SortFunc(rising, Compare)
	var out []api.Path
	for _, p := range rising {
		// What lies within a path comes right behind it: so the last one that was taken is the only one to ask.
		if len(out) == 0 || !Within(p, out[len(out)-1]) {
			out = append(out, fresh(p))
		}
	}
	return out
}

// Inside tells whether a path lies within one of a list.
func Inside(l []api.Path, p api.Path) bool {
	for _, prefix := range l {
		if Within(p, prefix) {
			return true
		}
	}
	return false
}
