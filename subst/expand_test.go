package subst_test

import (
	"fmt"
	"math/rand"
	"runtime"
	"slices"
	"strings"
	"testing"

	"paddock/api"
	"paddock/subst"
	"paddock/twigs"
)

var none = api.Span{From: -1, To: -1}

// 17.1: the chapter's examples, and others by hand.
func TestExpandExamples(t *testing.T) {
	for _, x := range []struct {
		l       string
		s       string
		m       []api.Span
		want    string
		another []api.Piece
	}{
		{`a\U&\Eb`, "xyz", []api.Span{{From: 1, To: 2}}, "aYb", nil},
		{`\U\l&`, "xyz", []api.Span{{From: 0, To: 3}}, "xYZ", nil},
		{`\u\L&`, "ABC", []api.Span{{From: 0, To: 3}}, "Abc", nil},
		{`\u\1x`, "", []api.Span{{}}, "X", nil},
		{"", "a", nil, "", nil},
		{"&\\0\\1\\2", "abcd", []api.Span{{From: 0, To: 4}, none, {From: 1, To: 3}}, "abcdabcdbc", nil},
		{`\9x`, "abcd", []api.Span{{From: 0, To: 4}}, "x", nil},
		{`\u\E&`, "abc", []api.Span{{From: 0, To: 3}}, "Abc", nil},
		{`\U\u\E&`, "abc", []api.Span{{From: 0, To: 3}}, "Abc", nil},
		{`\Ua\l\uBc`, "", nil, "ABC", nil},
		{`\La\u\lBC`, "", nil, "abc", nil},
		{`\u\l\uab`, "", nil, "Ab", nil},
		{`\u-ab`, "", nil, "-ab", nil},
		{`\l\1\2BC`, "a", []api.Span{{From: 0, To: 1}, none, {From: 1, To: 1}}, "bC", nil},
		{`\Ua\Lb\Ec\UD\E`, "", nil, "AbcD", nil},
		{`\Uaz{}[]@` + "`" + `0`, "", nil, "AZ{}[]@`0", nil},
		{`\LAZ{}[]@` + "`" + `0`, "", nil, "az{}[]@`0", nil},
		{`\U&`, "\xe4\xff\x00é", []api.Span{{From: 0, To: 5}}, "\xe4\xff\x00é", nil},
		{"", "", nil, "Xyab", []api.Piece{turn(api.PieceFirst), turn(0), {Kind: api.PieceEnd, Text: "t", N: 3}, turn(8), turn(255), text(""), text("xy"), {Kind: api.PieceText, N: 7, Text: "ab"}}},
	} {
		l := x.another
		if l == nil {
			l = pieces(x.l)
		}
		if s, why := subst.Expand(l, x.s, x.m); why != api.OK || s != x.want {
			t.Errorf("Expand(%s, %q, %v) = %q, %d; not %q", show(l), x.s, x.m, s, why, x.want)
		}
	}
}

// 17.1: all spans around the edges of a text; one wrong one is enough, wherever it stands, named or not.
func TestExpandRange(t *testing.T) {
	places := []int{-1 << 63, -2, -1, 0, 1, 2, 3, 4, 1<<63 - 1}
	for _, from := range places {
		for _, to := range places {
			x := api.Span{From: from, To: to}
			right := x == none || from >= 0 && from <= to && to <= 3
			for _, m := range [][]api.Span{{x}, {x, {}}, {none, {From: 3, To: 3}, x}} {
				for _, l := range [][]api.Piece{nil, {group(0), group(1), group(2)}} {
					s, why := subst.Expand(l, "abc", m)
					if right && (why != api.OK || s != said(l, "abc", m)) || !right && (why != api.ErrRange || s != "") {
						t.Errorf("Expand(%s, %v) = %q, %d", show(l), m, s, why)
					}
				}
			}
		}
	}
}

// 17.1: all short lists of pieces, by the words.
func TestExpandShort(t *testing.T) {
	kinds := []api.Piece{text(""), text("aB"), group(0), group(1), group(2), group(3), turn(api.PieceUpper), turn(api.PieceLower), turn(api.PieceEnd), turn(api.PieceFirst), turn(api.PieceSmall), turn(api.PieceNone)}
	m := []api.Span{{From: 0, To: 3}, none, {From: 1, To: 2}}
	lists := [][]api.Piece{nil}
	for i := 0; i < len(lists) && len(lists[i]) < 4; i++ {
		for _, p := range kinds {
			lists = append(lists, append(slices.Clip(lists[i]), p))
		}
	}
	for _, l := range lists {
		if s, why := subst.Expand(l, "xYz", m); why != api.OK || s != said(l, "xYz", m) {
			t.Fatalf("Expand(%s) = %q, %d; not %q", show(l), s, why, said(l, "xYz", m))
		}
	}
}

// grown are pieces, a text and spans in it.
func grown(chance func(int) int) ([]api.Piece, string, []api.Span) {
	s := twigs.Text(chance, "abzAZ-\xff\x00", 9)
	var m []api.Span
	for range chance(5) {
		from := chance(len(s) + 1)
		x := api.Span{From: from, To: from + chance(len(s)-from+1)}
		if chance(4) == 0 {
			x = none
		}
		m = append(m, x)
	}
	return growPieces(chance, 9), s, m
}

// 17.1: grown ones, by the words.
func TestExpandGrown(t *testing.T) {
	chance := rand.New(rand.NewSource(171)).Intn
	for range 60000 {
		l, s, m := grown(chance)
		if got, why := subst.Expand(l, s, m); why != api.OK || got != said(l, s, m) {
			t.Fatalf("Expand(%s, %q, %v) = %q, %d; not %q", show(l), s, m, got, why, said(l, s, m))
		}
	}
}

// 17.1: each byte by each turn.
func TestExpandBytes(t *testing.T) {
	for b := range 256 {
		s := string([]byte{byte(b), byte(b)})
		up, down := string([]byte{inCase(byte(b), true)}), string([]byte{inCase(byte(b), false)})
		for kind, want := range map[api.PieceKind]string{api.PieceUpper: up + up, api.PieceLower: down + down, api.PieceFirst: up + s[1:], api.PieceSmall: down + s[1:], api.PieceEnd: s} {
			for _, p := range []api.Piece{text(s), group(0)} {
				if got, why := subst.Expand([]api.Piece{turn(kind), p}, s, []api.Span{{From: 0, To: 2}}); why != api.OK || got != want {
					t.Errorf("%q by %d: %q, %d", s, kind, got, why)
				}
			}
		}
	}
}

// 17.8: lists one behind the other, upper case ahead, a turn at the end.
func TestExpandFollows(t *testing.T) {
	chance := rand.New(rand.NewSource(178)).Intn
	turns := []api.PieceKind{api.PieceUpper, api.PieceLower, api.PieceEnd, api.PieceFirst, api.PieceSmall}
	isTurn := func(p api.Piece) bool { return slices.Contains(turns, p.Kind) }
	for range 20000 {
		l, s, m := grown(chance)
		whole, _ := subst.Expand(l, s, m)
		if ended, why := subst.Expand(append(slices.Clone(l), turn(turns[chance(5)])), s, m); why != api.OK || ended != whole {
			t.Fatalf("a turn behind %s says %q, not %q", show(l), ended, whole)
		}
		l = slices.DeleteFunc(l, isTurn)
		cut := chance(len(l) + 1)
		plain, _ := subst.Expand(l, s, m)
		a, _ := subst.Expand(l[:cut], s, m)
		b, _ := subst.Expand(l[cut:], s, m)
		if plain != a+b {
			t.Fatalf("%s says %q, not %q and %q", show(l), plain, a, b)
		}
		up, _ := subst.Expand(append([]api.Piece{turn(api.PieceUpper)}, l...), s, m)
		if want := upperBytes(plain); up != want {
			t.Fatalf("%s in upper case is %q, not %q", show(l), up, want)
		}
	}
}

func upperBytes(s string) string {
	out := []byte(s)
	for i, c := range out {
		out[i] = inCase(c, true)
	}
	return string(out)
}

// 17.1: just so many bytes, and one more; a wrong span comes first. What is too much is told, not made.
func TestExpandLimit(t *testing.T) {
	defer runtime.GC()
	block := text(strings.Repeat("a", api.MaxMemory>>10))
	l := slices.Repeat([]api.Piece{block}, 1<<10)
	s, why := subst.Expand(l, "xy", []api.Span{{From: 1, To: 2}})
	if why != api.OK || len(s) != api.MaxMemory || s[:1] != "a" || s[len(s)-1:] != "a" {
		t.Fatal("at the limit:", len(s), why)
	}
	runtime.GC() // what was so long is given back ahead of the next one
	for _, more := range [][]api.Piece{{text("b")}, {group(0)}, {turn(api.PieceUpper), group(1), text("b")}, slices.Repeat(l, 10)} {
		s, why = subst.Expand(append(slices.Clip(l), more...), "xy", []api.Span{{From: 1, To: 2}, none})
		if why != api.ErrLong || s != "" {
			t.Error("one past it:", len(s), why)
		}
	}
	long := block.Text
	m := []api.Span{{From: 0, To: len(long)}, {From: 0, To: len(long) - 1}, {From: 3, To: 4}}
	groups := append(slices.Repeat([]api.Piece{group(0)}, 1<<10-1), group(1), group(3), turn(api.PieceFirst))
	if s, why = subst.Expand(append(groups, group(2)), long, m); why != api.OK || len(s) != api.MaxMemory || s[len(s)-2:] != "aA" {
		t.Error("groups at the limit:", len(s), why)
	}
	if s, why = subst.Expand(append(groups, group(2), group(2)), long, m); why != api.ErrLong || s != "" {
		t.Error("groups past the limit:", len(s), why)
	}
	if s, why = subst.Expand(append(groups, group(2), group(2)), long, append(m, api.Span{From: 0, To: len(long) + 1})); why != api.ErrRange || s != "" {
		t.Error("a wrong span and too much:", len(s), why)
	}
}

// 17.4, 17.9: the chapter's examples; all short sides, by the words; there and back.
func TestTable(t *testing.T) {
	for _, x := range [][4]string{{"ab", "ba", "abba", "baab"}, {"aa", "xy", "a", "x"}, {"ab", "x", "ab", "xb"}, {"", "", "a", "a"}, {"", "xyz", "a", "a"}, {"a", "", "aa", "aa"}, {"a", "xy", "ay", "xy"}, {"aba", "x", "ab", "xb"}, {"a", "b", "", ""}, {"\x00\xff", "\xff\x00", "\xff\x00a", "\x00\xffa"}, {"ab", "bc", "ab", "bc"}} {
		if got := subst.Table(x[0], x[1], x[2]); got != x[3] {
			t.Errorf("Table(%q, %q, %q) = %q, not %q", x[0], x[1], x[2], got, x[3])
		}
	}
	sides := twigs.Texts("abc", 4)
	for _, from := range sides {
		for _, to := range sides {
			if got, want := subst.Table(from, to, "abcdcba"), tableByWords(from, to, "abcdcba"); got != want {
				t.Fatalf("Table(%q, %q) = %q, not %q", from, to, got, want)
			}
		}
	}
	chance := rand.New(rand.NewSource(179))
	for range 4000 {
		from := bytesOf(chance.Perm(256)[:chance.Intn(257)])
		to := slices.Clone(from)
		chance.Shuffle(len(to), func(i, k int) { to[i], to[k] = to[k], to[i] })
		s := bytesOf(chance.Perm(256))
		there := subst.Table(string(from), string(to), string(s))
		if back := subst.Table(string(to), string(from), there); back != string(s) || there != tableByWords(string(from), string(to), string(s)) {
			t.Fatalf("17.9: from %q to %q and back: %q", from, to, back)
		}
	}
}

func bytesOf(l []int) []byte {
	var out []byte
	for _, c := range l {
		out = append(out, byte(c))
	}
	return out
}

// 17.5: what is handed in stays as it is, its spare room too.
func TestExpandMemory(t *testing.T) {
	chance := rand.New(rand.NewSource(175)).Intn
	for range 3000 {
		l, s, m := grown(chance)
		l, m = append(l, text("room")), append(m, api.Span{From: 66, To: 66})
		was := fmt.Sprint(l, m)
		first, _ := subst.Expand(l[:len(l)-1], s, m[:len(m)-1])
		kept := strings.Clone(first)
		second, _ := subst.Expand(l[:len(l)-1], s, m[:len(m)-1])
		if fmt.Sprint(l, m) != was {
			t.Fatalf("%s was changed to %v, %v", was, l, m)
		}
		clear(l)
		clear(m)
		if first != kept || second != kept {
			t.Fatalf("%q and %q, not %q", first, second, kept)
		}
	}
}
