package pairs_test

import (
	"slices"
	"strings"
	"testing"

	"paddock/pairs"
)

func TestEach(t *testing.T) {
	for s, want := range map[string][]string{
		"": nil, "a": {"a"}, "ab": {"a", "b"}, "\\": {"\\"}, "\\a": {"\\a"}, "\\\\": {"\\\\"}, "\\\\\\": {"\\\\", "\\"}, "\\\\a": {"\\\\", "a"}, "a\\b\\\\c\\\nd": {"a", "\\b", "\\\\", "c", "\\\n", "d"}, "\xff\\\xff\x00": {"\xff", "\\\xff", "\x00"}, "é": {"\xc3", "\xa9"}, "\\é": {"\\\xc3", "\xa9"},
	} {
		var got []string
		for at, p := range pairs.Each(s) {
			if at != len(strings.Join(got, "")) {
				t.Errorf("Each(%q): %q is told at %d", s, p, at)
			}
			got = append(got, p)
		}
		if !slices.Equal(got, want) {
			t.Errorf("Each(%q): %q, not %q", s, got, want)
		}
	}
	for at, p := range pairs.Each("a\\bc") {
		if p == "\\b" && at == 1 {
			break
		}
		if p != "a" {
			t.Errorf("%q is yielded behind the end", p)
		}
	}
}
