// Package wood makes trees of files for the tests of the other packages; the program itself does not call it.
package wood

import (
	"maps"
	"slices"
	"strings"

	"paddock/api"
)

// Dir is a folder with these files, as they stand.
func Dir(name string, files ...api.File) api.File {
	return api.File{Name: name, Kind: api.FileDir, Files: files}
}

// Text is a text.
func Text(name, data string) api.File {
	return api.File{Name: name, Kind: api.FileText, Data: data}
}

// Link is a link.
func Link(name, data string) api.File {
	return api.File{Name: name, Kind: api.FileLink, Data: data}
}

// Root is a tree with these files.
func Root(files ...api.File) api.File { return Dir("", files...) }

// Path has the names that stand between blanks.
func Path(s string) api.Path { return strings.Fields(s) }

// Own is a path's own text, however long; the root's is empty.
func Own(p api.Path) string {
	var out strings.Builder
	for _, name := range p {
		out.WriteByte('/')
		out.WriteString(name)
	}
	return out.String()
}

// Thing is what stands at a path, without its name and what is in it.
type Thing struct {
	Kind api.FileKind
	Data string
}

// Table has of each path's own text what stands there; of the tree itself too.
func Table(t api.File) map[string]Thing {
	out := map[string]Thing{"": {t.Kind, t.Data}}
	for _, f := range t.Files {
		for at, x := range Table(f) {
			out["/"+f.Name+at] = x
		}
	}
	return out
}

// SameTable tells whether two tables have the same.
func SameTable(a, b map[string]Thing) bool { return maps.Equal(a, b) }

// Rising is the same files by rising names.
func Rising(files []api.File) []api.File {
	return slices.SortedFunc(slices.Values(files), func(a, b api.File) int { return strings.Compare(a.Name, b.Name) })
}

// Spoil writes over all memory that a file has, spare room too.
func Spoil(f api.File) {
	for _, g := range f.Files {
		Spoil(g)
	}
	files := f.Files[:cap(f.Files)]
	for i := range files {
		files[i] = Text("spoilt", "")
	}
}

// Blot writes over all memory that a path has, spare room too.
func Blot(p api.Path) {
	p = p[:cap(p)]
	for i := range p {
		p[i] = "blot"
	}
}
