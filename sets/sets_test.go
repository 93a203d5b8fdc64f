package sets_test

import (
	"bytes"
	"math/rand"
	"slices"
	"strings"
	"testing"

	"paddock/api"
	"paddock/sets"
)

// model is a set as a list of what is in, byte by byte.
type model [256]bool

// modelOf reads a set by what api says of its bits.
func modelOf(s api.Set) model {
	var m model
	for b := range 256 {
		m[b] = s[b/64]&(1<<(b%64)) != 0
	}
	return m
}

func (m model) bytes() []byte {
	var out []byte
	for b, in := range m {
		if in {
			out = append(out, byte(b))
		}
	}
	return out
}

func (m model) set() api.Set {
	var s api.Set
	for _, b := range m.bytes() {
		s[b/64] |= 1 << (b % 64)
	}
	return s
}

// where is the set of the bytes of which a question is answered by yes.
func where(ask func(c byte) bool) api.Set {
	var m model
	for b := range 256 {
		m[b] = ask(byte(b))
	}
	return m.set()
}

// some are sets of all sizes: none, all, those of one byte, all but one, runs, and such as chance makes.
func some() []api.Set {
	out := []api.Set{{}, where(func(byte) bool { return true })}
	for b := range 256 {
		out = append(out, where(func(c byte) bool { return c == byte(b) }), where(func(c byte) bool { return c != byte(b) }))
	}
	chance := rand.New(rand.NewSource(7))
	for range 400 {
		full, run := chance.Intn(101), 1+chance.Intn(9)
		in := false
		out = append(out, where(func(byte) bool {
			if chance.Intn(run) == 0 {
				in = chance.Intn(100) < full
			}
			return in
		}))
	}
	return out
}

// 7.1: what a set has, and how many.
func TestInAndOut(t *testing.T) {
	for _, s := range some() {
		m := modelOf(s)
		if got := sets.Bytes(s); !bytes.Equal(got, m.bytes()) {
			t.Fatalf("Bytes(%x) = %q", s, got)
		}
		if got := sets.Count(s); got != len(m.bytes()) {
			t.Fatalf("Count(%x) = %d", s, got)
		}
		for b := range 256 {
			if sets.Has(s, byte(b)) != m[b] {
				t.Fatalf("Has(%x, %d)", s, b)
			}
		}
	}
}

// 7.1: Of takes bytes in any order, and as often as they come.
func TestOf(t *testing.T) {
	chance := rand.New(rand.NewSource(71))
	for n := range 300 {
		b := make([]byte, n)
		chance.Read(b)
		if got, want := sets.Of(b), where(func(c byte) bool { return bytes.IndexByte(b, c) >= 0 }); got != want {
			t.Fatalf("Of(%q) = %x", b, got)
		}
	}
	if sets.Of(nil) != (api.Set{}) || sets.Of([]byte{}) != (api.Set{}) || len(sets.Bytes(api.Set{})) != 0 {
		t.Error("none")
	}
}

// 7.1: each byte to each, those that fall too.
func TestRange(t *testing.T) {
	for from := range 256 {
		for to := range 256 {
			want := where(func(c byte) bool { return int(c) >= from && int(c) <= to })
			if got := sets.Range(byte(from), byte(to)); got != want {
				t.Fatalf("Range(%d, %d) = %x", from, to, got)
			}
		}
	}
}

// 7.1: Fold by its words: of a letter both cases, of all else itself.
func TestFold(t *testing.T) {
	letter := func(c byte) bool { return c >= 'A' && c <= 'Z' || c >= 'a' && c <= 'z' }
	for _, s := range some() {
		m := modelOf(s)
		want := where(func(c byte) bool { return m[c] || letter(c) && m[c^0x20] })
		if got := sets.Fold(s); got != want {
			t.Fatalf("Fold(%x) = %x", s, got)
		}
	}
	if sets.Fold(sets.Of([]byte("a1"))) != sets.Of([]byte("Aa1")) || sets.Fold(sets.Of([]byte("@[`{"))) != sets.Of([]byte("@[`{")) {
		t.Error("letters alone have another case")
	}
}

// 7.1: the classes, each written out.
func TestClass(t *testing.T) {
	upper, lower, digit := "ABCDEFGHIJKLMNOPQRSTUVWXYZ", "abcdefghijklmnopqrstuvwxyz", "0123456789"
	punct := "!\"#$%&'()*+,-./:;<=>?@[\\]^_`{|}~"
	graph := upper + lower + digit + punct
	cntrl := "\x7f"
	for b := range 32 {
		cntrl += string(rune(b))
	}
	for name, want := range map[string]string{
		"upper": upper, "lower": lower, "alpha": upper + lower, "digit": digit, "alnum": upper + lower + digit, "xdigit": digit + "ABCDEFabcdef",
		"blank": " \t", "space": " \t\n\v\f\r", "cntrl": cntrl, "print": " " + graph, "graph": graph, "punct": punct,
	} {
		if got, ok := sets.Class(name); !ok || got != sets.Of([]byte(want)) {
			t.Errorf("Class(%q) = %q, %v", name, sets.Bytes(got), ok)
		}
		for _, wrong := range []string{name[:4], name + "s", strings.ToUpper(name), strings.ToUpper(name[:1]) + name[1:], " " + name, ":" + name + ":"} {
			if got, ok := sets.Class(wrong); ok || got != (api.Set{}) {
				t.Errorf("Class(%q) = %q, %v", wrong, sets.Bytes(got), ok)
			}
		}
	}
	for _, wrong := range []string{"", "word", "ascii", "Digit", "\x00"} {
		if got, ok := sets.Class(wrong); ok || got != (api.Set{}) {
			t.Errorf("Class(%q) = %q, %v", wrong, sets.Bytes(got), ok)
		}
	}
	p, _ := sets.Class("punct")
	if sets.Count(p) != 32 {
		t.Error("punct has", sets.Count(p))
	}
}

// 7.1, 7.6: And, Or and Not byte by byte, and the laws.
func TestLaws(t *testing.T) {
	all := some()
	for i, a := range all {
		b := all[(i*31+17)%len(all)]
		ma, mb := modelOf(a), modelOf(b)
		both, one, not := sets.And(a, b), sets.Or(a, b), sets.Not(a)
		for c := range 256 {
			x := byte(c)
			if sets.Has(both, x) != (ma[c] && mb[c]) || sets.Has(one, x) != (ma[c] || mb[c]) || sets.Has(not, x) == ma[c] {
				t.Fatalf("%x, %x: %x, %x, %x", a, b, both, one, not)
			}
		}
		if sets.Not(both) != sets.Or(not, sets.Not(b)) || sets.Not(not) != a {
			t.Fatalf("Not of And of %x, %x", a, b)
		}
		if sets.Count(one) != sets.Count(a)+sets.Count(b)-sets.Count(both) {
			t.Fatalf("Count of Or of %x, %x", a, b)
		}
		if sets.Of(sets.Bytes(a)) != a {
			t.Fatalf("Of(Bytes(%x))", a)
		}
		if f := sets.Fold(a); sets.Fold(f) != f || sets.And(a, f) != a {
			t.Fatalf("Fold of Fold of %x", a)
		}
	}
}

// 7.4: what is handed in stays as it is, spare room too; two answers have nothing in common.
func TestNewMemory(t *testing.T) {
	b := []byte("zab-mark")
	s := sets.Of(b[:3])
	if string(b) != "zab-mark" || s != sets.Of([]byte("abz")) {
		t.Fatalf("%q, %x", b, s)
	}
	x, y := sets.Bytes(s), sets.Bytes(s)
	x = append(x, 'm')
	for i := range x[:cap(x)] {
		x[:cap(x)][i] = '!'
	}
	if !slices.Equal(y, []byte("abz")) || !slices.Equal(sets.Bytes(s), []byte("abz")) {
		t.Fatalf("%q", y)
	}
}
