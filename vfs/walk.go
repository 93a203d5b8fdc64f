package vfs

import (
	"slices"
	"strings"

	"paddock/api"
	"paddock/paths"
	"paddock/trees"
)

// node is a file of a tree that changes.
type node struct {
	name  string
	kind  api.FileKind
	data  string
	grown strings.Builder // all of the data, as soon as something was put behind it: texts are written in many small pieces
	files []*node         // by rising names
}

// plant is a file of a right tree, made one that changes.
func plant(f api.File) *node {
	n := &node{name: f.Name, kind: f.Kind, data: f.Data}
	for _, child := range f.Files {
		n.files = append(n.files, plant(child))
	}
	return n
}

// file is the node as a value.
func (n *node) file() api.File {
	out := api.File{Name: n.name, Kind: n.kind, Data: n.text()}
	for _, child := range n.files {
		out.Files = append(out.Files, child.file())
	}
	return out
}

func (n *node) text() string {
	if n.grown.Len() > 0 {
		return n.grown.String()
	}
	return n.data
}

func (n *node) grow(data string) {
	if n.grown.Len() == 0 {
		n.grown.WriteString(n.data)
		n.data = ""
	}
	n.grown.WriteString(data)
}

// find is where a name stands in a folder, or would stand.
func (n *node) find(name string) (int, bool) {
	return slices.BinarySearchFunc(n.files, name, func(child *node, name string) int {
		return strings.Compare(child.name, name)
	})
}

// child is the file of that name in a folder; nil: none.
func (n *node) child(name string) *node {
	if i, there := n.find(name); there {
		return n.files[i]
	}
	return nil
}

// spot is where a walk ended: the real path, the folder that it lies in (nil: it is the root), what stands there (nil: nothing).
type spot struct {
	path         api.Path
	folder, file *node
}

func (s spot) isFolder() bool {
	return s.file != nil && s.file.kind == api.FileDir
}

// put lets a node stand there, in the place of what stood there.
func (s spot) put(n *node) {
	n.name = s.path[len(s.path)-1]
	i, there := s.folder.find(n.name)
	if there {
		s.folder.files[i] = n
	} else {
		s.folder.files = slices.Insert(s.folder.files, i, n)
	}
}

// drop takes away what stands there.
func (s spot) drop() {
	if i, there := s.folder.find(s.file.name); there {
		s.folder.files = slices.Delete(s.folder.files, i, i+1)
	}
}

// Real is where a path leads in a tree, all links on the way followed (last: that of the last name too).
func Real(t api.File, p api.Path, last bool) (api.Path, api.Errno) {
	if why, _ := trees.Check(t); why != api.OK {
		return nil, why
	}
	if !paths.Right(p) {
		return nil, api.ErrPath
	}
	at, why := plant(t).walk(p, last)
	return fresh(at.path), why
}

// walk goes from the root to where a path leads.
func (n *node) walk(p api.Path, last bool) (spot, api.Errno) {
	if len(p) > api.MaxNest {
		return spot{}, api.ErrMany
	}
	root, links := n, 0
	at := spot{file: root}
	for i := 0; i < len(p); {
		if why := at.enter(p[i]); why != api.OK {
			return spot{}, why
		}
		i++
		if at.file == nil || at.file.kind != api.FileLink || i == len(p) && !last {
			continue
		}
		if links == api.MaxLinks {
			return spot{}, api.ErrLoop
		}
		links++
		var why api.Errno
		if p, why = follow(p[:i-1], at.file.data, p[i:]); why != api.OK {
			return spot{}, why
		}
		at, i = spot{file: root}, 0
	}
	at.path = p
	return at, api.OK
}

// enter goes on to a name in what stands here.
func (s *spot) enter(name string) api.Errno {
	if s.file == nil {
		return api.ErrNoFile
	}
	if s.file.kind != api.FileDir {
		return api.ErrNoDir
	}
	s.folder, s.file = s.file, s.file.child(name)
	return api.OK
}

// follow is the path that a link in a folder leads to, with the names that are left.
func follow(folder api.Path, link string, left api.Path) (api.Path, api.Errno) {
	to, _, why := paths.Normal(folder, link)
	if why != api.OK {
		return nil, why
	}
	if len(to)+len(left) > api.MaxNest {
		return nil, api.ErrMany
	}
	return append(to, left...), api.OK
}
