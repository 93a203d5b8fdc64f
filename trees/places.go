package trees

import (
	"maps"
	"slices"
	"strings"

	"paddock/api"
)

// find is where a name stands among files by rising names, or where it would stand.
func find(files []api.File, name string) (int, bool) {
	return slices.BinarySearchFunc(files, name, func(f api.File, name string) int {
		return strings.Compare(f.Name, name)
	})
}

// look is the file at a path of a right tree; it shares the tree's memory.
func look(t api.File, p api.Path) (api.File, api.Errno) {
	for _, name := range p {
		if t.Kind != api.FileDir {
			return api.File{}, api.ErrNoDir
		}
		i, there := find(t.Files, name)
		if !there {
			return api.File{}, api.ErrNoFile
		}
		t = t.Files[i]
	}
	return t, api.OK
}

// Get is the file at a path.
func Get(t api.File, p api.Path) (api.File, api.Errno) {
	if why, _ := Check(t); why != api.OK {
		return api.File{}, why
	}
	f, why := look(t, p)
	return Copy(f), why
}

// Put is the tree with a file at a path.
func Put(t api.File, p api.Path, f api.File) (api.File, api.Errno) {
	folder, why := holder(t, p)
	if why != api.OK {
		return api.File{}, why
	}
	if folder.Kind != api.FileDir {
		return api.File{}, api.ErrNoDir
	}
	last := len(p) - 1
	f.Name = p[last]
	out := with(t, p[:last], swap(folder.Files, f.Name, f))
	if why, _ := Check(out); why != api.OK {
		return api.File{}, why
	}
	return Copy(out), api.OK
}

// Drop is the tree without the file at a path.
func Drop(t api.File, p api.Path) (api.File, api.Errno) {
	folder, why := holder(t, p)
	if why != api.OK {
		return api.File{}, why
	}
	if _, why := look(t, p); why != api.OK {
		return api.File{}, why
	}
	last := len(p) - 1
	return Copy(with(t, p[:last], swap(folder.Files, p[last]))), api.OK
}

// holder is what stands at a path without its last name, in a tree that may be wrong.
func holder(t api.File, p api.Path) (api.File, api.Errno) {
	if why, _ := Check(t); why != api.OK {
		return api.File{}, why
	}
	if len(p) == 0 {
		return api.File{}, api.ErrRange
	}
	return look(t, p[:len(p)-1])
}

// swap is a list of its own: files, with others in the place of the one that has this name (or would have it).
func swap(files []api.File, name string, others ...api.File) []api.File {
	i, there := find(files, name)
	rest := files[i:]
	if there {
		rest = rest[1:]
	}
	return slices.Concat(files[:i], others, rest)
}

// with is a tree whose folder at a path has these files. What lies beside the way is t's memory still.
func with(t api.File, p api.Path, files []api.File) api.File {
	if len(p) == 0 {
		t.Files = files
		return t
	}
	i, _ := find(t.Files, p[0])
	t.Files = swap(t.Files, p[0], with(t.Files[i], p[1:], files))
	return t
}

// List are all files, each behind its folder.
func List(t api.File) ([]api.Kept, api.Errno) {
	if why, _ := Check(t); why != api.OK {
		return nil, why
	}
	var out []api.Kept
	for p, f := range inside(&t) {
		out = append(out, api.Kept{Path: fresh(p), Kind: f.Kind, Size: len(f.Data)})
	}
	return out, api.OK
}

// pair is what two trees have at one path; a file that is of no Kind is none.
type pair struct{ a, b api.File }

func (p pair) differs() bool {
	return p.a.Kind != p.b.Kind || p.a.Data != p.b.Data
}

// children are the files of both, by their names.
func (p pair) children() map[string]pair {
	out := map[string]pair{}
	for _, f := range p.a.Files {
		out[f.Name] = pair{a: f}
	}
	for _, f := range p.b.Files {
		out[f.Name] = pair{a: out[f.Name].a, b: f}
	}
	return out
}

// Changed are the paths at which two trees differ.
func Changed(a, b api.File) ([]api.Path, api.Errno) {
	for _, t := range []api.File{a, b} {
		if why, _ := Check(t); why != api.OK {
			return nil, why
		}
	}
	return changed(nil, nil, pair{a, b}), api.OK
}

// changed puts the paths below p at which a pair differs behind out.
func changed(out []api.Path, p api.Path, both pair) []api.Path {
	children := both.children()
	for _, name := range slices.Sorted(maps.Keys(children)) {
		at := append(p, name)
		child := children[name]
		if child.differs() {
			out = append(out, fresh(at))
		}
		out = changed(out, at, child)
	}
	return out
}
