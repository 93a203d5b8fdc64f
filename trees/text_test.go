package trees_test

import (
	"regexp"
	"slices"
	"strings"
	"testing"

	"paddock/api"
	"paddock/lines"
	"paddock/trees"
	"paddock/wood"
)

// allBytes has each byte once.
func allBytes() string {
	var out []byte
	for i := range 256 {
		out = append(out, byte(i))
	}
	return string(out)
}

// odd are right trees at the edges: odd bytes in names and texts, the longest and deepest of all.
func odd() []api.File {
	name := strings.NewReplacer("\x00", "", "/", "").Replace(allBytes())
	f := wood.Text(strings.Repeat("\\", api.MaxName), "")
	for range api.MaxNest - 1 {
		f = wood.Dir(strings.Repeat("\"", api.MaxName), f)
	}
	return []api.File{
		wood.Root(), grove(), wood.Root(f), deep(api.MaxNest, wood.Dir("f")), deep(api.MaxNest, wood.Link("f", "x")),
		wood.Root(wood.Text(name, allBytes()), wood.Link("x", strings.ReplaceAll(allBytes(), "\x00", ""))),
		wood.Root(wood.Dir(" "), wood.Text(" \n", "\n"), wood.Text("\"", "\""), wood.Text("#", "# x\n\n"), wood.Link("l", strings.Repeat("\xff", api.MaxPath))),
		wood.Root(wood.Dir("a", wood.Text("z", "")), wood.Text("a.b", ""), wood.Text("a0", "")),
	}
}

// 3.5
func TestPrint(t *testing.T) {
	for _, c := range []struct {
		t    api.File
		want string
	}{
		{grove(), "dir \"/a\"\ntext \"/a/b\" \"x\\n\"\nlink \"/c\" \"/a/b\"\n"},
		{wood.Root(), ""},
		{wood.Root(wood.Dir("a", wood.Dir("b", wood.Text("c", "")), wood.Text("d", "\x00")), wood.Text("a b", "\"")), "dir \"/a\"\ndir \"/a/b\"\ntext \"/a/b/c\" \"\"\ntext \"/a/d\" \"\\000\"\ntext \"/a b\" \"\\\"\"\n"},
	} {
		if s, why := trees.Print(c.t); why != api.OK || s != c.want {
			t.Errorf("Print(%v) = %q, %d", c.t, s, why)
		}
	}
	// The own text of this path is beyond what paths.Print takes.
	f := wood.Text("f", "x")
	for range api.MaxNest - 1 {
		f = wood.Dir(strings.Repeat("n", api.MaxName), f)
	}
	s, why := trees.Print(wood.Root(f))
	last := "text \"" + strings.Repeat("/"+strings.Repeat("n", api.MaxName), api.MaxNest-1) + "/f\" \"x\"\n"
	if why != api.OK || !strings.HasSuffix(s, "\n"+last) {
		t.Errorf("Print of a long path: %d bytes, %d", len(s), why)
	}
}

// 3.7
func TestReadOfPrint(t *testing.T) {
	for _, g := range append(small(), odd()...) {
		s, why := trees.Print(g)
		if why != api.OK {
			t.Fatalf("Print(%v): %d", g, why)
		}
		// A last line that is not whole, and lines that are passed over, change nothing.
		for _, u := range []string{s, strings.TrimSuffix(s, "\n"), "# a tree\n\n" + strings.ReplaceAll(s, "\n", "\n\n#dir\n"), s + "\n\n#"} {
			f, why, fault := trees.Read(u)
			if why != api.OK || fault != (api.Fault{}) || !trees.Same(f, g) {
				t.Fatalf("Read(%.80q) = %v, %d, %v", u, f, why, fault)
			}
		}
	}
}

// 3.5: each rule, at its edges.
func TestReadRules(t *testing.T) {
	name := strings.Repeat("n", api.MaxName)
	nested := func(n int, last string) string {
		out, p := "", ""
		for range n - 1 {
			p += "/n"
			out += "dir \"" + p + "\"\n"
		}
		return out + last + " \"" + p + "/f\""
	}
	data := strings.Repeat("d", api.MaxPath)
	for _, c := range []struct {
		s          string
		line, rule int
	}{
		{`text "/a/b" ""`, 1, 5}, {"dir \"/a\"\ndir \"/a\"", 2, 4}, {`dir "a"`, 1, 3}, {`file "/a"`, 1, 1}, {`link "/a" ""`, 1, 6},
		{`dir`, 1, 1}, {`dir"/a"`, 1, 1}, {` dir "/a"`, 1, 1}, {`Dir "/a"`, 1, 1}, {`dirs "/a"`, 1, 1}, {"dir\t\"/a\"", 1, 1}, {` `, 1, 1}, {` #`, 1, 1}, {" \"/a\"", 1, 1}, {"tex \"/a\" \"\"", 1, 1}, {"\r", 1, 1},
		{`dir `, 1, 2}, {`dir /a`, 1, 2}, {`dir  "/a"`, 1, 2}, {`dir "/a`, 1, 2}, {`dir "/a" `, 1, 2}, {`dir "/a" ""`, 1, 2}, {`dir "/a"x`, 1, 2}, {"dir \"/a\"\r", 1, 2},
		{`text "/a"`, 1, 2}, {`text "/a" `, 1, 2}, {`text "/a"  ""`, 1, 2}, {`text "/a""x"`, 1, 2}, {`text "/a" x`, 1, 2}, {`text "/a" "x" `, 1, 2}, {`text "/a" "x"y`, 1, 2}, {`text "/a" "x`, 1, 2}, {`text "/a" "\q"`, 1, 2}, {`link "/a"`, 1, 2}, {`link "\x" "y"`, 1, 2}, {"text \"/a\" \"\xff\"", 1, 2}, {`text "\141" ""`, 1, 2},
		{`dir "/"`, 1, 3}, {`dir ""`, 1, 3}, {`dir "/a/"`, 1, 3}, {`dir "//a"`, 1, 3}, {`dir "/."`, 1, 3}, {`dir "/.."`, 1, 3}, {`dir "/a/../b"`, 1, 3}, {`dir "/\000"`, 1, 3}, {`dir "/` + name + `n"`, 1, 3}, {`dir "a/b"`, 1, 3},
		{`dir "/` + name + `"`, 0, 0}, {`dir "/..."`, 0, 0},
		{nested(api.MaxNest, "dir"), 0, 0}, {nested(api.MaxNest+1, "dir"), api.MaxNest + 1, 3}, {nested(api.MaxNest, "text") + ` "x"`, 0, 0}, {nested(api.MaxNest+1, "text") + ` "x"`, api.MaxNest + 1, 3},
		{"dir \"/b\"\ndir \"/a\"", 2, 4}, {"dir \"/a\"\ntext \"/a/b\" \"\"\ndir \"/a\"", 3, 4}, {"dir \"/a\"\n\n# x\ndir \"/a\"", 4, 4}, {"dir \"/a\"\ntext \"/a.b\" \"\"\ntext \"/a/b\" \"\"", 3, 4}, {"dir \"/a\"\ndir \"/a/b\"\ntext \"/a/b/c\" \"\"\ntext \"/a/b/c\" \"\"", 4, 4},
		{"dir \"/a\"\ntext \"/a/b\" \"\"\ntext \"/a.b\" \"\"", 0, 0}, {"text \"/a\" \"\"\ntext \"/ab\" \"\"", 0, 0},
		{"text \"/a\" \"\"\ntext \"/a/b\" \"\"", 2, 5}, {"link \"/a\" \"x\"\ntext \"/a/b\" \"\"", 2, 5}, {"dir \"/a\"\ntext \"/b/c\" \"\"", 2, 5}, {"dir \"/a\"\ntext \"/a/b/c\" \"\"", 2, 5}, {"dir \"/a\"\ndir \"/a/b\"\ntext \"/a/c/d\" \"\"", 3, 5},
		{"dir \"/a\"\ndir \"/a/b\"\ndir \"/a/c\"\ntext \"/a/c/d\" \"\"\ntext \"/b\" \"\"", 0, 0},
		{`link "/a" "` + data + `"`, 0, 0}, {`link "/a" "` + data + `d"`, 1, 6}, {`link "/a" "\000"`, 1, 6}, {`text "/a" "` + data + `d"`, 0, 0}, {`text "/a" "\000"`, 0, 0}, {`link "/a" "x\000y"`, 1, 6},
		// The least rule, and the least line.
		{`link "a/" ""`, 1, 3}, {"dir \"/b\"\nlink \"/a/x\" \"\"", 2, 4}, {"dir \"/b\"\nlink \"/c/x\" \"\"", 2, 5}, {"link \"/a\" \"\"\nfile", 1, 6}, {"\n#\n\nfile\ndir", 4, 1},
	} {
		f, why, fault := trees.Read(c.s)
		want := api.OK
		if c.rule > 0 {
			want = api.ErrLine
		}
		if why != want || fault != (api.Fault{Line: c.line, Rule: c.rule}) || why != api.OK && !trees.Same(f, api.File{}) {
			t.Errorf("Read(%.80q) = %v, %d, %v; not %d, %d", c.s, f, why, fault, c.line, c.rule)
		}
		if no, _ := trees.Check(f); why == api.OK && no != api.OK {
			t.Errorf("Read(%.80q) is no tree: %v", c.s, f)
		}
	}
}

// The rules 1 and 2 as expressions: a quoted text is told bytes, each in one way.
const quoted = `"(?:[ !#-\[\]-~]|\\["\\abfnrtv]|\\00[0-6]|\\01[67]|\\0[23][0-7]|\\177|\\[23][0-7][0-7])*"`

var (
	rule1 = regexp.MustCompile(`^(?:dir|text|link) `)
	rule2 = regexp.MustCompile(`^(?:dir (` + quoted + `)|(?:text|link) (` + quoted + `) (` + quoted + `))$`)
)

// meant is the rule that the last of some lines breaks by the chapter's words (0: none), if those ahead break none.
func meant(l []string) int {
	s := l[len(l)-1]
	if !rule1.MatchString(s) {
		return 1
	}
	words := rule2.FindStringSubmatch(s)
	if words == nil {
		return 2
	}
	told, _, _, _ := lines.Unquote(words[1] + words[2])
	names := strings.Split(told, "/")
	if names[0] != "" || len(names) == 1 || slices.ContainsFunc(names[1:], func(n string) bool { return n == "" || n == "." || n == ".." || strings.Contains(n, "\x00") }) {
		return 3
	}
	dirs := map[string]bool{"": true}
	for _, ahead := range l[:len(l)-1] {
		told := rule2.FindStringSubmatch(ahead)
		before, _, _, _ := lines.Unquote(told[1] + told[2])
		if slices.Compare(strings.Split(before, "/"), names) >= 0 {
			return 4
		}
		dirs[before] = dirs[before] || strings.HasPrefix(ahead, "dir")
	}
	if !dirs[strings.Join(names[:len(names)-1], "/")] {
		return 5
	}
	if data, _, _, _ := lines.Unquote(words[3]); strings.HasPrefix(s, "link") && (data == "" || strings.Contains(data, "\x00")) {
		return 6
	}
	return 0
}

// 3.5: all texts of four lines out of some, against the rules by their words.
func TestReadAsMeant(t *testing.T) {
	pool := []string{`dir "/a"`, `dir "/a/b"`, `dir "/b"`, `text "/a" "x"`, `text "/a/b" ""`, `text "/a/b/c" "y"`, `text "/a.b" ""`, `link "/a/c" "x"`, `link "/b" ""`, `link "/b/c" "\000"`, `text "/b/\\" "\000"`, `dir "a"`, `dir "/a" ""`, `dir "/a`, `text "/c" "\001" `, `dir "/\000"`, `file "/a"`}
	var try func(l []string)
	try = func(l []string) {
		rule := 0
		if len(l) > 0 {
			rule = meant(l)
		}
		s := strings.Join(l, "\n")
		f, why, fault := trees.Read(s)
		if rule != 0 {
			if why != api.ErrLine || fault != (api.Fault{Line: len(l), Rule: rule}) || !trees.Same(f, api.File{}) {
				t.Fatalf("Read(%q) = %v, %d, %v; not the rule %d", s, f, why, fault, rule)
			}
			return
		}
		if back, no := trees.Print(f); why != api.OK || fault != (api.Fault{}) || no != api.OK || strings.TrimSuffix(back, "\n") != s {
			t.Fatalf("Read(%q) = %v, %d, %v", s, f, why, fault)
		}
		if len(l) < 4 {
			for _, line := range pool {
				try(append(slices.Clone(l), line))
			}
		}
	}
	try(nil)
	for _, line := range pool {
		for at := range len(line) {
			for _, cut := range []string{line[:at], line[:at] + line[at+1:], line[:at] + " " + line[at:], line[:at] + "\"" + line[at:]} {
				if cut == "" || cut[0] == '#' {
					continue
				}
				_, _, fault := trees.Read(cut)
				if rule := meant([]string{cut}); fault.Rule != rule {
					t.Errorf("Read(%q): rule %d, not %d", cut, fault.Rule, rule)
				}
			}
		}
	}
}
