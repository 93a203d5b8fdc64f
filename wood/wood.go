// Package wood makes trees of files and lists of paths for the tests of the other packages; the program itself does not call it.
package wood

import (
	"maps"
	"slices"
	"strconv"
	"strings"

	"paddock/api"
)

// Dir is a folder with these files, as they stand.
func Dir(name string, files ...api.File) api.File {
	return api.File{Name: name, Kind: api.FileDir, Files: files}
}

// Text is a text.
func Text(name, data string) api.File {
	return api.File{Name: name, Kind: api.FileText, Data: data}
}

// Link is a link.
func Link(name, data string) api.File {
	return api.File{Name: name, Kind: api.FileLink, Data: data}
}

// Root is a tree with these files.
func Root(files ...api.File) api.File { return Dir("", files...) }

// Path has the names that stand between blanks.
func Path(s string) api.Path { return strings.Fields(s) }

// Paths has a path of each text; of / the root.
func Paths(texts ...string) []api.Path {
	var out []api.Path
	for _, s := range texts {
		if s == "/" {
			s = ""
		}
		out = append(out, Path(s))
	}
	return out
}

// Own is a path's own text, however long; the root's is empty.
func Own(p api.Path) string {
	var out strings.Builder
	for _, name := range p {
		out.WriteByte('/')
		out.WriteString(name)
	}
	return out.String()
}

// Thing is what stands at a path, without its name and what is in it.
type Thing struct {
	Kind api.FileKind
	Data string
}

// Table has of each path's own text what stands there; of the tree itself too.
func Table(t api.File) map[string]Thing {
	out := map[string]Thing{"": {t.Kind, t.Data}}
	for _, f := range t.Files {
		for at, x := range Table(f) {
			out["/"+f.Name+at] = x
		}
	}
	return out
}

// Texts tells the texts of a tree, by their paths.
func Texts(t api.File) string {
	var out []string
	table := Table(t)
	for _, at := range slices.Sorted(maps.Keys(table)) {
		if table[at].Kind == api.FileText {
			out = append(out, at+"="+strconv.Quote(table[at].Data))
		}
	}
	return strings.Join(out, " ")
}

// Show tells all of a file, and of all in it.
func Show(f api.File) string {
	words := []string{strconv.Itoa(int(f.Kind)), strconv.Quote(f.Name), strconv.Quote(f.Data)}
	for _, g := range f.Files {
		words = append(words, Show(g))
	}
	return "(" + strings.Join(words, " ") + ")"
}

// SameTable tells whether two tables have the same.
func SameTable(a, b map[string]Thing) bool { return maps.Equal(a, b) }

// Rising is the same files by rising names.
func Rising(files []api.File) []api.File {
	return slices.SortedFunc(slices.Values(files), func(a, b api.File) int { return strings.Compare(a.Name, b.Name) })
}

// Spoil writes over all memory that a file has, spare room too.
func Spoil(f api.File) {
	for _, g := range f.Files {
		Spoil(g)
	}
	files := f.Files[:cap(f.Files)]
	for i := range files {
		files[i] = Text("spoilt", "")
	}
}

// Blot writes over all memory that a path has, spare room too.
func Blot(p api.Path) {
	p = p[:cap(p)]
	for i := range p {
		p[i] = "blot"
	}
}

// BlotAll writes over all memory that a list of paths has, spare room too.
func BlotAll(l []api.Path) {
	l = l[:cap(l)]
	for i := range l {
		Blot(l[i])
		l[i] = api.Path{"blot"}
	}
}

// Roomy is the same paths with spare room, full of marks, in the list and in each of them.
func Roomy(l []api.Path) []api.Path {
	var out []api.Path
	for _, p := range l {
		out = append(out, append(slices.Clone(p), "mark", "mark")[:len(p)])
	}
	return append(out, api.Path{"mark"}, api.Path{"mark"})[:len(l)]
}

// Untouched tells whether what Roomy made of a list is as it was made, marks and all.
func Untouched(roomy, l []api.Path) bool {
	same := func(p, q api.Path) bool { return slices.Equal(p, q) }
	if !slices.EqualFunc(roomy, l, same) || !slices.EqualFunc(roomy[len(l):len(l)+2], Paths("mark", "mark"), same) {
		return false
	}
	for _, p := range roomy {
		if !slices.Equal(p[len(p):len(p)+2], Path("mark mark")) {
			return false
		}
	}
	return true
}
