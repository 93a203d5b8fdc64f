// Package rules_test holds the program's text against the language that it is written in, and against the map of its layers.
package rules_test

import (
	"bytes"
	"go/ast"
	"go/format"
	"go/parser"
	"go/token"
	"os"
	"path/filepath"
	"slices"
	"strconv"
	"strings"
	"testing"
)

const (
	root     = ".."
	module   = "paddock/"
	maxLines = 60
)

// library is what may be imported from outside the project.
var library = strings.Fields("bytes cmp container/heap errors iter maps math math/bits slices sort strconv strings sync sync/atomic unicode unicode/utf8")

// only are the names that may be used of a package that is not allowed whole.
var only = map[string][]string{
	"sync": {"Mutex", "RWMutex", "WaitGroup", "Once"},
	"iter": {"Seq", "Seq2"},
}

// calls is the map: each layer, and those that it calls; api may be called by all.
var calls = map[string]string{
	"lines":   "",
	"paths":   "",
	"trees":   "lines paths",
	"vfs":     "paths trees",
	"policy":  "lines paths",
	"gate":    "paths trees vfs",
	"sets":    "",
	"syntax":  "sets",
	"posix":   "sets",
	"nfa":     "posix",
	"match":   "posix nfa",
	"deriv":   "posix nfa",
	"script":  "syntax posix nfa pairs",
	"pretty":  "script pairs",
	"program": "script",
	"reach":   "program",
	"subst":   "posix sets",
	"space":   "",
	"spec":    "lines posix program subst match space cycles",
	"engine":  "lines posix program subst match space spec cycles",
	"input":   "lines",
	"output":  "paths gate",
	"inplace": "paths gate",
	"audit":   "lines paths trees vfs",
	"sandbox": "lines paths policy vfs gate script program engine input inplace",
	"args":    "",
	"debug":   "lines program spec",
	"tidy":    "program reach",
	"farm":    "lines paths trees policy sandbox",
	"front":   "lines paths trees policy script pretty program reach audit sandbox args debug tidy farm",
	"pairs":   "",                                      // no layer: it goes through the pairs of a text for script and pretty
	"cycles":  "lines posix program subst match space", // no layer: it runs programs for spec and engine
	"wood":    "",                                      // no layer: it makes trees of files for tests
	"twigs":   "syntax",                                // no layer: it makes trees of expressions for tests
	"reeds":   "script twigs",                          // no layer: it makes scripts for tests
	"rushes":  "program reeds twigs",                   // no layer: it makes programs for tests
	"marsh":   "lines match posix subst wood",          // no layer: it makes worlds and jobs, and reads runs, for tests
}

// source is a file of the program, read.
type source struct {
	name, folder string
	text         []byte
	set          *token.FileSet
	file         *ast.File
}

func (s source) line(p token.Pos) int { return s.set.Position(p).Line }

// sources are the layers' files, but those of tests.
func sources(t *testing.T) []source {
	var out []source
	for folder := range calls {
		names, _ := filepath.Glob(filepath.Join(root, folder, "*"))
		if len(names) == 0 {
			t.Errorf("the layer %s is missing", folder)
		}
		for _, name := range names {
			if strings.HasSuffix(name, "_test.go") {
				continue
			}
			text, err := os.ReadFile(name)
			set := token.NewFileSet()
			file, wrong := parser.ParseFile(set, name, text, parser.ParseComments)
			if filepath.Ext(name) != ".go" || err != nil || wrong != nil {
				t.Errorf("%s is no Go file: %v, %v", name, err, wrong)
				continue
			}
			out = append(out, source{name, folder, text, set, file})
		}
	}
	return out
}

func TestImports(t *testing.T) {
	for _, s := range sources(t) {
		for _, spec := range s.file.Imports {
			path, _ := strconv.Unquote(spec.Path.Value)
			own, ours := strings.CutPrefix(path, module)
			if ours && own != "api" && !slices.Contains(strings.Fields(calls[s.folder]), own) {
				t.Errorf("%s calls %s, which the map does not have", s.name, own)
			}
			if !ours && !slices.Contains(library, path) {
				t.Errorf("%s imports %s", s.name, path)
			}
		}
		ast.Inspect(s.file, func(n ast.Node) bool {
			if x, ok := n.(*ast.SelectorExpr); ok {
				from, _ := x.X.(*ast.Ident)
				if from != nil && from.Obj == nil && only[from.Name] != nil && !slices.Contains(only[from.Name], x.Sel.Name) {
					t.Errorf("%s:%d uses %s.%s", s.name, s.line(x.Pos()), from.Name, x.Sel.Name)
				}
			}
			return true
		})
	}
}

func TestLayout(t *testing.T) {
	for _, s := range sources(t) {
		if laid, err := format.Source(s.text); err != nil || !bytes.Equal(laid, s.text) {
			t.Errorf("%s is not in gofmt's layout: %v", s.name, err)
		}
		for _, group := range s.file.Comments {
			for _, c := range group.List {
				if strings.HasPrefix(c.Text, "//go:") || strings.HasPrefix(c.Text, "// +build") {
					t.Errorf("%s:%d: %s", s.name, s.line(c.Pos()), c.Text)
				}
			}
		}
		for _, d := range s.file.Decls {
			if f, ok := d.(*ast.FuncDecl); ok && s.line(f.End())-s.line(f.Pos()) >= maxLines {
				t.Errorf("%s: %s has more than %d lines", s.name, f.Name.Name, maxLines)
			}
		}
	}
}

// At package level a variable is a table that is written out, or an error that errors.New makes of a text.
func TestTables(t *testing.T) {
	for _, s := range sources(t) {
		for _, d := range s.file.Decls {
			g, ok := d.(*ast.GenDecl)
			if !ok || g.Tok != token.VAR {
				continue
			}
			for _, spec := range g.Specs {
				v := spec.(*ast.ValueSpec)
				if v.Names[0].Name != "_" && len(v.Values) != len(v.Names) {
					t.Errorf("%s:%d: a variable without a value", s.name, s.line(v.Pos()))
				}
				for _, x := range v.Values {
					checkValue(t, s, x)
				}
			}
		}
	}
}

func checkValue(t *testing.T, s source, x ast.Expr) {
	ast.Inspect(x, func(n ast.Node) bool {
		wrong := ""
		switch y := n.(type) {
		case *ast.MapType:
			wrong = "a map"
		case *ast.FuncLit:
			wrong = "a function"
		case *ast.UnaryExpr:
			if y.Op == token.AND {
				wrong = "an address"
			}
		case *ast.CallExpr:
			if f, ok := y.Fun.(*ast.SelectorExpr); !ok || f.Sel.Name != "New" {
				wrong = "a call"
			}
		}
		if wrong != "" {
			t.Errorf("%s:%d: %s at package level", s.name, s.line(n.Pos()), wrong)
		}
		return true
	})
}
