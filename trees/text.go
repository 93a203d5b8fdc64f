package trees

import (
	"strings"

	"paddock/api"
	"paddock/lines"
	"paddock/paths"
)

// words has at a kind's place its word.
var words = [api.FileCount]string{api.FileDir: "dir", api.FileText: "text", api.FileLink: "link"}

// The rules of a line, as Read tells them.
const (
	ruleWord = 1 + iota
	ruleQuotes
	rulePath
	ruleOrder
	ruleFolder
	ruleLink
)

// Print writes a tree.
func Print(t api.File) (string, api.Errno) {
	if why, _ := Check(t); why != api.OK {
		return "", why
	}
	var out strings.Builder
	for p, f := range inside(&t) {
		out.WriteString(words[f.Kind])
		out.WriteByte(' ')
		// Paths of trees may be longer than those that paths.Print takes.
		out.WriteString(lines.Quote("/" + strings.Join(p, "/")))
		if f.Kind != api.FileDir {
			out.WriteByte(' ')
			out.WriteString(lines.Quote(f.Data))
		}
		out.WriteByte('\n')
	}
	return out.String(), api.OK
}

// told is a file as a line tells it.
type told struct {
	path api.Path
	kind api.FileKind
	data string
}

// Read reads what Print writes; the first fault, where there is one.
func Read(s string) (api.File, api.Errno, api.Fault) {
	var list []told
	// The root stands ahead of all, and is the folder of those with one name.
	ahead := told{kind: api.FileDir}
	for i, l := range lines.Split(s) {
		if l.Text == "" || l.Text[0] == '#' {
			continue
		}
		f, rule := readLine(l.Text, ahead)
		if rule != 0 {
			return api.File{}, api.ErrLine, api.Fault{Line: i + 1, Rule: rule}
		}
		list = append(list, f)
		ahead = f
	}
	files, _ := build(list, 0)
	return api.File{Kind: api.FileDir, Files: files}, api.OK, api.Fault{}
}

// readLine is the file that a line tells behind that of the one ahead; or the least rule that it breaks (0: none).
func readLine(s string, ahead told) (told, int) {
	word, rest, blank := strings.Cut(s, " ")
	kind := kindOf(word)
	if !blank || kind == api.FileNone {
		return told{}, ruleWord
	}
	path, data, ok := readQuotes(rest, kind)
	if !ok {
		return told{}, ruleQuotes
	}
	names, ok := readNames(path)
	if !ok {
		return told{}, rulePath
	}
	if paths.Compare(ahead.path, names) >= 0 {
		return told{}, ruleOrder
	}
	if !ahead.opens(names[:len(names)-1]) {
		return told{}, ruleFolder
	}
	if kind == api.FileLink && !mayLead(data) {
		return told{}, ruleLink
	}
	return told{names, kind, data}, 0
}

// kindOf is the kind that a word tells; FileNone: none.
func kindOf(word string) api.FileKind {
	for kind, w := range words {
		if w == word && w != "" {
			return api.FileKind(kind)
		}
	}
	return api.FileNone
}

// readQuotes is the path and, but for a folder, the data that stand behind a line's word, and nothing behind them.
func readQuotes(s string, kind api.FileKind) (string, string, bool) {
	path, n, why, _ := lines.Unquote(s)
	if why != api.OK {
		return "", "", false
	}
	if kind == api.FileDir {
		return path, "", n == len(s)
	}
	rest, blank := strings.CutPrefix(s[n:], " ")
	data, n, why, _ := lines.Unquote(rest)
	return path, data, blank && why == api.OK && n == len(rest)
}

// readNames is the path of which a text is the own one.
func readNames(s string) (api.Path, bool) {
	rest, slash := strings.CutPrefix(s, "/")
	names := strings.Split(rest, "/")
	if !slash || len(names) > api.MaxNest {
		return nil, false
	}
	for _, name := range names {
		if !paths.Name(name) {
			return nil, false
		}
	}
	return names, true
}

// opens tells whether this file or one that it lies in is the folder at a path. Paths rise from line to line: so no other folder can have a file behind this one.
func (t told) opens(folder api.Path) bool {
	return paths.Within(t.path, folder) && (len(folder) < len(t.path) || t.kind == api.FileDir)
}

// build takes off the list's front what lies in a folder with so many names on its path.
func build(list []told, names int) ([]api.File, []told) {
	var files []api.File
	for len(list) > 0 && len(list[0].path) > names {
		f := list[0]
		file := api.File{Name: f.path[names], Kind: f.kind, Data: f.data}
		file.Files, list = build(list[1:], names+1)
		files = append(files, file)
	}
	return files, list
}
