package lines_test

import (
	"slices"
	"strings"
	"testing"

	"paddock/api"
	"paddock/lines"
)

func keep(s string) api.Change { return change(api.ChangeKeep, s) }
func drop(s string) api.Change { return change(api.ChangeDrop, s) }
func add(s string) api.Change  { return change(api.ChangeAdd, s) }

// change is of the line that a text has.
func change(kind api.ChangeKind, s string) api.Change {
	text, whole := strings.CutSuffix(s, "\n")
	return api.Change{Kind: kind, Line: api.Line{Text: text, Whole: whole}}
}

// 1.10
func TestDiff(t *testing.T) {
	for _, c := range []struct {
		a, b string
		want []api.Change
	}{
		{"", "", nil},
		{"a\nb\nc\n", "a\nc\nd\n", []api.Change{keep("a\n"), drop("b\n"), keep("c\n"), add("d\n")}},
		{"a", "a\n", []api.Change{drop("a"), add("a\n")}},
		{"a\n", "a", []api.Change{drop("a\n"), add("a")}},
		{"", "a\nb", []api.Change{add("a\n"), add("b")}},
		{"a\nb", "", []api.Change{drop("a\n"), drop("b")}},
		{"a\n", "b\n", []api.Change{drop("a\n"), add("b\n")}},
		{"a\nb\n", "b\na\n", []api.Change{drop("a\n"), keep("b\n"), add("a\n")}},
		{"x\na\n", "a\nx\na\n", []api.Change{add("a\n"), keep("x\n"), keep("a\n")}},
		{"a\na\nb\n", "a\nb\n", []api.Change{keep("a\n"), drop("a\n"), keep("b\n")}},
		{"y\nz\nz\n", "w\nz\n", []api.Change{drop("y\n"), drop("z\n"), add("w\n"), keep("z\n")}},
	} {
		if l, why := lines.Diff(c.a, c.b); !slices.Equal(l, c.want) || why != api.OK {
			t.Errorf("Diff(%q, %q) = %v, %d", c.a, c.b, l, why)
		}
	}
}

// most is how many lines can be kept, tried in all ways.
func most(a, b []api.Line) int {
	if len(a) == 0 || len(b) == 0 {
		return 0
	}
	n := max(most(a[1:], b), most(a, b[1:]))
	if a[0] == b[0] {
		n = max(n, 1+most(a[1:], b[1:]))
	}
	return n
}

// meant is Diff as the document says it, word by word.
func meant(a, b []api.Line) []api.Change {
	var out []api.Change
	for len(a) > 0 || len(b) > 0 {
		if len(a) > 0 && len(b) > 0 && a[0] == b[0] {
			out = append(out, api.Change{Kind: api.ChangeKeep, Line: a[0]})
			a, b = a[1:], b[1:]
		} else if len(a) > 0 && most(a[1:], b) == most(a, b) {
			out = append(out, api.Change{Kind: api.ChangeDrop, Line: a[0]})
			a = a[1:]
		} else {
			out = append(out, api.Change{Kind: api.ChangeAdd, Line: b[0]})
			b = b[1:]
		}
	}
	return out
}

// smallTexts have a few short lines, the last one whole or not.
func smallTexts() []string {
	var out []string
	for _, s := range texts("abc", 3) {
		whole := strings.Join(strings.Split(s, ""), "\n")
		out = append(out, whole)
		if s != "" {
			out = append(out, whole+"\n")
		}
	}
	return append(out, "\n", "\n\na\n", "a\n\na\nb\n\n", "a\nb\na\nc\na\n", "c\na\nb\nb\na")
}

// 1.10, 1.12
func TestDiffAsMeant(t *testing.T) {
	all := smallTexts()
	for _, a := range all {
		for _, b := range all {
			l, why := lines.Diff(a, b)
			if want := meant(lines.Split(a), lines.Split(b)); !slices.Equal(l, want) || why != api.OK {
				t.Fatalf("Diff(%q, %q) = %v, %d", a, b, l, why)
			}
			if made, why := lines.Apply(a, l); made != b || why != api.OK {
				t.Fatalf("Apply(%q, Diff(.., %q)) = %q, %d", a, b, made, why)
			}
			kept := 0
			for _, c := range l {
				if c.Kind == api.ChangeKeep {
					kept++
				}
			}
			if kept != most(lines.Split(a), lines.Split(b)) || a == b && kept != len(l) {
				t.Fatalf("Diff(%q, %q) keeps %d", a, b, kept)
			}
		}
	}
}

// 1.10: MaxLines, at it and one past it.
func TestDiffLimit(t *testing.T) {
	at := strings.Repeat("a\n", api.MaxLines)
	past := at + "b"
	other := strings.Repeat("b\na\n", api.MaxLines/2)
	if l, why := lines.Diff(at, other); len(l) != api.MaxLines*3/2 || why != api.OK {
		t.Error("at the limit:", len(l), why)
	} else if made, why := lines.Apply(at, l); made != other || why != api.OK {
		t.Error("Apply at the limit:", len(made), why)
	}
	if l, why := lines.Diff(at, at); len(l) != api.MaxLines || why != api.OK {
		t.Error("one text at the limit:", len(l), why)
	}
	for _, c := range [][2]string{{past, ""}, {"", past}, {past, past}, {at, at + "\n"}} {
		if l, why := lines.Diff(c[0], c[1]); l != nil || why != api.ErrMany {
			t.Error("one past the limit:", len(l), why)
		}
	}
	if s, why := lines.Apply(past, []api.Change{drop("a\n")}); s != "" || why != api.ErrChange {
		t.Error("Apply has no limit:", s, why)
	}
}

// 1.10
func TestApply(t *testing.T) {
	for _, c := range []struct {
		s    string
		l    []api.Change
		want string
		why  api.Errno
	}{
		{"", nil, "", api.OK},
		{"", []api.Change{add("a"), add("b\n")}, "ab\n", api.OK},
		{"a\nb", []api.Change{keep("a\n"), add("x\n"), drop("b"), add("c")}, "a\nx\nc", api.OK},
		{"a\n", []api.Change{add("b"), keep("a\n")}, "ba\n", api.OK},
		{"a\n", []api.Change{drop("a\n")}, "", api.OK},
		{"a\n", nil, "", api.ErrChange},
		{"a\nb\n", []api.Change{keep("a\n")}, "", api.ErrChange},
		{"a\nb\n", []api.Change{keep("b\n"), keep("a\n")}, "", api.ErrChange},
		{"a\n", []api.Change{keep("a")}, "", api.ErrChange},
		{"a\n", []api.Change{drop("a")}, "", api.ErrChange},
		{"a\n", []api.Change{keep("a\n"), keep("a\n")}, "", api.ErrChange},
		{"a\n", []api.Change{keep("a\n"), drop("b\n")}, "", api.ErrChange},
		{"a\n", []api.Change{keep("a\n"), {}}, "", api.ErrChange},
		{"a\n", []api.Change{change(api.ChangeCount, "a\n")}, "", api.ErrChange},
		{"a\n", []api.Change{keep("a\n"), change(255, "b\n")}, "", api.ErrChange},
		{"a\n", []api.Change{change(api.ChangeNone, "a\n"), keep("a\n")}, "", api.ErrChange},
	} {
		if s, why := lines.Apply(c.s, c.l); s != c.want || why != c.why {
			t.Errorf("Apply(%q, %v) = %q, %d", c.s, c.l, s, why)
		}
	}
}
