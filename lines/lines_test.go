package lines_test

import (
	"slices"
	"strings"
	"testing"

	"paddock/api"
	"paddock/lines"
)

// texts are all texts of these bytes up to a length.
func texts(alphabet string, length int) []string {
	out := []string{""}
	from := 0
	for range length {
		upto := len(out)
		for _, s := range out[from:upto] {
			for i := range len(alphabet) {
				out = append(out, s+alphabet[i:i+1])
			}
		}
		from = upto
	}
	return out
}

// allBytes has each byte once.
func allBytes() string {
	var b []byte
	for i := range 256 {
		b = append(b, byte(i))
	}
	return string(b)
}

func whole(l ...string) []api.Line {
	var out []api.Line
	for _, s := range l {
		out = append(out, api.Line{Text: s, Whole: true})
	}
	return out
}

// 1.1
func TestSplit(t *testing.T) {
	for _, c := range []struct {
		s    string
		want []api.Line
	}{
		{"", nil},
		{"\n", whole("")},
		{"a", []api.Line{{Text: "a"}}},
		{"a\n", whole("a")},
		{"\n\n", whole("", "")},
		{"a\n\nb", append(whole("a", ""), api.Line{Text: "b"})},
		{"a\r\n\x00\n", whole("a\r", "\x00")},
	} {
		if l := lines.Split(c.s); !slices.Equal(l, c.want) {
			t.Errorf("Split(%q) = %v", c.s, l)
		}
	}
}

// 1.1
func TestJoin(t *testing.T) {
	for _, c := range []struct {
		l    []api.Line
		want string
	}{
		{nil, ""},
		{[]api.Line{}, ""},
		{[]api.Line{{}}, ""},
		{whole(""), "\n"},
		{[]api.Line{{Text: "a"}, {Text: "b", Whole: true}, {Text: "c"}}, "ab\nc"},
		{[]api.Line{{Text: "a\nb", Whole: true}}, "a\nb\n"},
	} {
		if s := lines.Join(c.l); s != c.want {
			t.Errorf("Join(%v) = %q", c.l, s)
		}
	}
}

// 1.1
func TestCount(t *testing.T) {
	for s, want := range map[string]int{"": 0, "\n": 1, "a": 1, "a\n": 1, "a\n\nb": 3, "\n\n": 2, "\n\nb": 3} {
		if n := lines.Count(s); n != want {
			t.Errorf("Count(%q) = %d", s, n)
		}
	}
	for _, s := range texts("a\n\x00", 5) {
		if lines.Count(s) != len(lines.Split(s)) {
			t.Errorf("Count(%q) is not how many lines it has", s)
		}
	}
}

// 1.2
func TestFirst(t *testing.T) {
	for _, c := range []struct {
		s, ahead, behind string
		ok               bool
	}{
		{"", "", "", false},
		{"a", "a", "", false},
		{"\n", "", "", true},
		{"a\n", "a", "", true},
		{"\nb", "", "b", true},
		{"a\nb\nc", "a", "b\nc", true},
	} {
		ahead, behind, ok := lines.First(c.s)
		if ahead != c.ahead || behind != c.behind || ok != c.ok {
			t.Errorf("First(%q) = %q, %q, %v", c.s, ahead, behind, ok)
		}
	}
}

// 1.7
func TestThereAndBack(t *testing.T) {
	for _, s := range append(texts("a\n\x00", 6), allBytes()) {
		l := lines.Split(s)
		if lines.Join(l) != s {
			t.Errorf("Join(Split(%q)) = %q", s, lines.Join(l))
		}
		for i, line := range l {
			last := i == len(l)-1
			if strings.Contains(line.Text, "\n") || !line.Whole && (!last || line.Text == "") {
				t.Errorf("Split(%q): %v", s, l)
			}
		}
	}
	for _, l := range [][]api.Line{nil, whole("a", "", "b"), append(whole("", "a"), api.Line{Text: "b"}), {{Text: "x"}}} {
		if got := lines.Split(lines.Join(l)); !slices.Equal(got, l) {
			t.Errorf("Split(Join(%v)) = %v", l, got)
		}
	}
}

// 1.6, P3: what is done to an answer, or to a list that was handed in, is not seen by any other one.
func TestNewMemory(t *testing.T) {
	l := lines.Split("a\nb\nc")
	l[0].Text = "x"
	_ = append(l[:1], api.Line{Text: "y"})
	if again := lines.Split("a\nb\nc"); again[0].Text != "a" || again[1].Text != "b" {
		t.Error("Split keeps what it answered:", again)
	}
	room := append(make([]api.Line, 0, 8), whole("a", "b")...)
	lines.Join(room[:1])
	if !slices.Equal(room, whole("a", "b")) || room[:3][2] != (api.Line{}) {
		t.Error("Join changes what it is given:", room)
	}

	changes, _ := lines.Diff("a\nb\n", "b\nc\n")
	kept := slices.Clone(changes)
	if again, _ := lines.Diff("a\nb\n", "b\nc\n"); !slices.Equal(again, kept) {
		t.Error("Diff answers otherwise:", again)
	} else {
		again[0] = api.Change{}
	}
	lines.Apply("a\nb\n", changes[:1])
	lines.Apply("a\nb\n", changes)
	if !slices.Equal(changes, kept) {
		t.Error("Apply changes what it is given, or two answers of Diff are one:", changes)
	}
}

// P1: no call panics or goes on for ever, whatever bytes and numbers it is given.
func TestAnyArguments(t *testing.T) {
	numbers := []int{-1 << 63, -1, 0, 1, 2, 5, api.MaxLines, api.MaxLines + 1, 1<<63 - 1}
	for _, s := range append(texts("\\\n$\"0\xff", 3), allBytes()) {
		lines.Split(s)
		lines.Count(s)
		lines.First(s)
		lines.Unlist(s)
		lines.Quote(s)
		lines.Unquote(s)
		lines.Diff(s, "\n\\")
		lines.Apply(s, nil)
		for _, n := range numbers {
			lines.List(s, n)
			lines.Unified(s, s, "$", n)
		}
	}
}
