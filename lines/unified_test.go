package lines_test

import (
	"fmt"
	"regexp"
	"strings"
	"testing"

	"paddock/api"
	"paddock/lines"
)

const missing = "\\ No newline at end of file\n"

// count writes the numbers from one to another, a line each.
func count(from, to int) string {
	var s string
	for i := from; i <= to; i++ {
		s += fmt.Sprintln(i)
	}
	return s
}

// shown is count with a blank ahead of each line.
func shown(from, to int) string {
	var s string
	for i := from; i <= to; i++ {
		s += fmt.Sprintln("", i)
	}
	return s
}

// 1.11
func TestUnified(t *testing.T) {
	for _, c := range []struct {
		a, b   string
		around int
		want   string
	}{
		{"a\nb\n", "a\nc", 3, "@@ -1,2 +1,2 @@\n a\n-b\n+c\n" + missing},
		{"a\nb\n", "a\nc", 0, "@@ -2 +2 @@\n-b\n+c\n" + missing},
		{"", "x\n", 0, "@@ -0,0 +1 @@\n+x\n"},
		{"x\n", "", 0, "@@ -1 +0,0 @@\n-x\n"},
		{"", "x\ny", 5, "@@ -0,0 +1,2 @@\n+x\n+y\n" + missing},
		{"a", "a\n", 3, "@@ -1 +1 @@\n-a\n" + missing + "+a\n"},
		{"a\nb", "c\nb", 1, "@@ -1,2 +1,2 @@\n-a\n+c\n b\n" + missing},
		{"a\nb\n", "a\nx\nb\n", 0, "@@ -1,0 +2 @@\n+x\n"},
		{"a\nx\nb\n", "a\nb\n", 0, "@@ -2 +1,0 @@\n-x\n"},
		{count(1, 9), count(1, 4) + count(6, 9), 3, "@@ -2,7 +2,6 @@\n" + shown(2, 4) + "-5\n" + shown(6, 8)},
		{"x\n" + count(1, 6) + "y\n", count(1, 6), 3, "@@ -1,8 +1,6 @@\n-x\n" + shown(1, 6) + "-y\n"},
		{"x\n" + count(1, 7) + "y\n", count(1, 7), 3, "@@ -1,4 +1,3 @@\n-x\n" + shown(1, 3) + "@@ -6,4 +5,3 @@\n" + shown(5, 7) + "-y\n"},
		{count(1, 3), "x\n" + count(1, 3) + "y\n", 0, "@@ -0,0 +1 @@\n+x\n@@ -3,0 +5 @@\n+y\n"},
		{count(1, 2), "x\n" + count(1, 2) + "y\n", 1, "@@ -1,2 +1,4 @@\n+x\n 1\n 2\n+y\n"},
		{"a\nb\n", "c\nd\n", 0, "@@ -1,2 +1,2 @@\n-a\n-b\n+c\n+d\n"},
		{"-\n+\n", "+\n@\n", api.MaxLines, "@@ -1,2 +1,2 @@\n--\n +\n+@\n"},
	} {
		s, why := lines.Unified("f", c.a, c.b, c.around)
		if s != "--- \"f\"\n+++ \"f\"\n"+c.want || why != api.OK {
			t.Errorf("Unified(f, %q, %q, %d) = %q, %d", c.a, c.b, c.around, s, why)
		}
	}
	if s, _ := lines.Unified("a\"\n\xff", "a", "", 1); !strings.HasPrefix(s, "--- \"a\\\"\\n\\377\"\n+++ \"a\\\"\\n\\377\"\n@@ ") {
		t.Errorf("a name is quoted: %q", s)
	}
}

// 1.11: the errors in their order, and the limits.
func TestUnifiedErrors(t *testing.T) {
	at := strings.Repeat("\n", api.MaxLines)
	past := at + "\n"
	for _, c := range []struct {
		a, b   string
		around int
		why    api.Errno
	}{
		{"a", "b", -1, api.ErrRange},
		{"a", "b", api.MaxLines + 1, api.ErrRange},
		{"a", "a", -1, api.ErrRange},
		{past, "", -1, api.ErrRange},
		{past, "", 0, api.ErrMany},
		{"", past, api.MaxLines, api.ErrMany},
		{past, past, 3, api.ErrMany},
		{at, at, 3, api.OK},
		{"", "", 0, api.OK},
		{"a", "a", api.MaxLines, api.OK},
	} {
		if s, why := lines.Unified("f", c.a, c.b, c.around); s != "" || why != c.why {
			t.Errorf("Unified with %d and %d bytes, %d around = %q, %d", len(c.a), len(c.b), c.around, s, why)
		}
	}
	s, why := lines.Unified("f", at, "", api.MaxLines)
	if !strings.HasPrefix(s, "--- \"f\"\n+++ \"f\"\n@@ -1,4096 +0,0 @@\n-\n") || why != api.OK {
		t.Errorf("at the limit: %d bytes, %d", len(s), why)
	}
}

// hunkText writes a hunk of changes, each number counted from the front.
func hunkText(l []api.Change, from, to int) string {
	var ahead, in [2]int
	var s string
	for i, c := range l[:to] {
		if i >= from {
			s += map[api.ChangeKind]string{api.ChangeKeep: " ", api.ChangeDrop: "-", api.ChangeAdd: "+"}[c.Kind] + c.Line.Text + "\n"
			if !c.Line.Whole {
				s += missing
			}
		}
		for side, not := range [2]api.ChangeKind{api.ChangeAdd, api.ChangeDrop} {
			if c.Kind != not && i >= from {
				in[side]++
			} else if c.Kind != not {
				ahead[side]++
			}
		}
	}
	var place [2]string
	for side := range 2 {
		place[side] = fmt.Sprintf("%d,%d", ahead[side]+1, in[side])
		if in[side] == 0 {
			place[side] = fmt.Sprintf("%d,0", ahead[side])
		} else if in[side] == 1 {
			place[side] = fmt.Sprint(ahead[side] + 1)
		}
	}
	return "@@ -" + place[0] + " +" + place[1] + " @@\n" + s
}

// unifiedMeant marks each change that is shown: one that is no ChangeKeep, such as stand near it, and all where at most twice around are kept between two of them.
func unifiedMeant(name string, l []api.Change, around int) string {
	near := make([]bool, len(l))
	last := -1
	for i, c := range l {
		if c.Kind == api.ChangeKeep {
			continue
		}
		for k := max(0, i-around); k <= min(i+around, len(l)-1); k++ {
			near[k] = true
		}
		for k := last + 1; last >= 0 && i-last-1 <= 2*around && k < i; k++ {
			near[k] = true
		}
		last = i
	}
	out := "--- " + lines.Quote(name) + "\n+++ " + lines.Quote(name) + "\n"
	from := 0
	for i := 0; i <= len(l); i++ {
		if i == len(l) || !near[i] {
			if from < i {
				out += hunkText(l, from, i)
			}
			from = i + 1
		}
	}
	return out
}

// 1.11, 1.12
func TestUnifiedAsMeant(t *testing.T) {
	begins := regexp.MustCompile(`\A(?:--- "f"|\+\+\+ "f"|@@ -\d+(?:,\d+)? \+\d+(?:,\d+)? @@|[ +-].*|\\ No newline at end of file)\z`)
	all := append(smallTexts(), "a\nx\nb\ny\nc\nz\nd\n", "a\nb\nc\nd\n", count(1, 12), strings.ReplaceAll(count(1, 12), "6", "x"), count(2, 11))
	for _, a := range all {
		for _, b := range all {
			l, _ := lines.Diff(a, b)
			for around := range 4 {
				s, why := lines.Unified("f", a, b, around)
				want := ""
				if a != b {
					want = unifiedMeant("f", l, around)
				}
				if s != want || why != api.OK || (s == "") != (a == b) {
					t.Fatalf("Unified(f, %q, %q, %d) = %q, %d", a, b, around, s, why)
				}
				for _, line := range lines.Split(s) {
					if !line.Whole || !begins.MatchString(line.Text) {
						t.Fatalf("Unified(f, %q, %q, %d) has the line %q", a, b, around, line.Text)
					}
				}
			}
		}
	}
}
