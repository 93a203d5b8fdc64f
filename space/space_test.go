package space_test

import (
	"math/rand"
	"runtime"
	"slices"
	"strings"
	"testing"

	"paddock/api"
	"paddock/space"
)

func made(t *testing.T, quota int) *space.Space {
	t.Helper()
	s, why := space.New(quota)
	if why != api.OK || s == nil {
		t.Fatalf("New(%d): error %d", quota, why)
	}
	return s
}

// P18.1: quotas at the edges and one past them; a new space has nothing.
func TestNew(t *testing.T) {
	for _, quota := range []int{-1 << 63, -1, api.MaxMemory + 1, 1<<63 - 1} {
		if s, why := space.New(quota); s != nil || why != api.ErrRange {
			t.Errorf("New(%d) = %v, %d", quota, s, why)
		}
	}
	for _, quota := range []int{0, 1, api.MaxMemory} {
		if s := made(t, quota); s.Pattern() != "" || s.Hold() != "" || len(s.Queue()) != 0 || s.Used() != 0 {
			t.Errorf("New(%d) has %s", quota, stands(s))
		}
	}
}

// The chapter's examples.
func TestExamples(t *testing.T) {
	s := made(t, 5)
	if s.Set("abc") != api.OK || s.Used() != 3 || s.Put() != api.ErrMemory || s.Set("ab") != api.OK || s.Put() != api.OK || s.Used() != 4 || s.GetMore() != api.ErrMemory || s.Pattern() != "ab" || s.Hold() != "ab" {
		t.Error("1:", stands(s))
	}
	s = made(t, 0)
	if s.Set("") != api.OK || s.Set("a") != api.ErrMemory || s.Join("") != api.ErrMemory || s.GetMore() != api.ErrMemory || s.PutMore() != api.ErrMemory {
		t.Error("1:", stands(s))
	}
	s = made(t, 100)
	s.Set("a\nb\n")
	if line, more := s.First(); line != "a" || !more {
		t.Error("2:", line, more)
	}
	for _, want := range []struct {
		more bool
		left string
	}{{true, "b\n"}, {true, ""}, {false, ""}, {false, ""}} {
		if more, why := s.Drop(); more != want.more || why != api.OK || s.Pattern() != want.left {
			t.Error("2:", more, why, stands(s))
		}
	}
	s = made(t, 100)
	for _, why := range []api.Errno{s.Set("a"), s.Put(), s.Set("b"), s.PutMore()} {
		if why != api.OK {
			t.Error("3:", why)
		}
	}
	if s.Hold() != "a\nb" || s.Swap() != api.OK || s.Pattern() != "a\nb" || s.Hold() != "b" || s.Join("c") != api.OK || s.Pattern() != "a\nb\nc" {
		t.Error("3:", stands(s))
	}
	s = made(t, 100)
	if s.Push(api.Item{Kind: api.ItemText, Text: "x"}) != api.OK || s.Push(api.Item{Kind: api.ItemFile, Text: "f"}) != api.OK || s.Used() != 2 || s.Push(api.Item{Kind: 9}) != api.ErrRange {
		t.Error("4:", stands(s))
	}
	if l, why := s.Take(); why != api.OK || !slices.Equal(l, []api.Item{{Kind: api.ItemText, Text: "x"}, {Kind: api.ItemFile, Text: "f"}}) || s.Used() != 0 {
		t.Error("4:", l, why)
	}
	if l, why := s.Take(); why != api.OK || len(l) != 0 {
		t.Error("4:", l, why)
	}
}

// P18.2, P18.3, P18.5, P18.6: all short rows of calls, within all small quotas.
func TestShortRows(t *testing.T) {
	calls := append(plainCalls(), set(""), set("a"), set("a\nb"), join(""), join("c\n"), push(api.ItemText, ""), push(api.ItemFile, "f"), push(api.ItemLine, "ln"), push(api.ItemNone, "x"))
	for quota := range 8 {
		t.Run("", func(t *testing.T) {
			t.Parallel()
			rows := [][]call{nil}
			for i := 0; i < len(rows); i++ {
				run(t, quota, rows[i])
				for _, c := range calls {
					if len(rows[i]) < 3 || len(rows[i]) < 4 && (quota+len(rows))%3 == 0 {
						rows = append(rows, append(slices.Clip(rows[i]), c))
					}
				}
			}
		})
	}
}

// P18.2, P18.3, P18.5, P18.6: long rows of calls by chance, around the quota.
func TestLongRows(t *testing.T) {
	texts := []string{"", "a", "\n", "a\nb", "\n\n", "abc\ndef\nghi", "\x00\xff\n\r\n", strings.Repeat("x", 20)}
	for part := range 4 {
		t.Run("", func(t *testing.T) {
			t.Parallel()
			chance := rand.New(rand.NewSource(int64(180 + part))).Intn
			for range 1500 {
				var l []call
				for range 120 {
					text := texts[chance(len(texts))]
					more := []call{set(text), join(text), push(api.ItemKind(chance(5)), text), push(api.ItemText, text)}
					l = append(l, append(more, plainCalls()...)[chance(11)])
				}
				run(t, chance(90), l)
			}
		})
	}
}

// P18.2, P18.6: each call at the quota, one past it, and further past it.
func TestQuota(t *testing.T) {
	item := func(s *space.Space) api.Errno { return s.Push(api.Item{Kind: api.ItemText, Text: "12345"}) }
	for _, x := range []struct {
		name          string
		pattern, hold string
		ask           func(*space.Space) api.Errno
		grows         int
	}{
		{"Set", "de", "abc", func(s *space.Space) api.Errno { return s.Set("12345") }, 3},
		{"Join", "de", "abc", func(s *space.Space) api.Errno { return s.Join("12345") }, 6},
		{"Get", "de", "abc", (*space.Space).Get, 1},
		{"GetMore", "de", "abc", (*space.Space).GetMore, 4},
		{"Put", "abcd", "e", (*space.Space).Put, 3},
		{"PutMore", "de", "abc", (*space.Space).PutMore, 3},
		{"Push", "de", "abc", item, 5},
		{"Swap", "de", "abc", (*space.Space).Swap, 0},
		{"Drop", "d\n", "abc", func(s *space.Space) api.Errno { _, why := s.Drop(); return why }, 0},
	} {
		for room := range 9 {
			s := made(t, 10+room)
			s.Set(x.hold)
			s.Swap()
			s.Set(x.pattern)
			if item(s) != api.OK || s.Used() != 10 {
				t.Fatal(stands(s))
			}
			was := stands(s)
			why := x.ask(s)
			if x.grows <= room && (why != api.OK || stands(s) == was) || x.grows > room && (why != api.ErrMemory || stands(s) != was) {
				t.Errorf("%s with room for %d: error %d, %s; it was %s", x.name, room, why, stands(s), was)
			}
			if s.Used() > 10+room {
				t.Errorf("%s with room for %d: %d are used", x.name, room, s.Used())
			}
		}
	}
}

// P18.2: the greatest quota, full to its last byte.
func TestGreatest(t *testing.T) {
	defer runtime.GC()
	more := strings.Repeat("x", api.MaxMemory/2+1)
	half := more[1:]
	s := made(t, api.MaxMemory)
	if s.Set(half) != api.OK || s.Put() != api.OK || s.Used() != api.MaxMemory {
		t.Fatal("full:", s.Used())
	}
	item := func(text string) api.Errno { return s.Push(api.Item{Kind: api.ItemFile, Text: text}) }
	if s.Join("") != api.ErrMemory || s.GetMore() != api.ErrMemory || s.PutMore() != api.ErrMemory || item("f") != api.ErrMemory || s.Set(more) != api.ErrMemory || s.Used() != api.MaxMemory {
		t.Error("fuller:", s.Used())
	}
	if item("") != api.OK || s.Swap() != api.OK || s.Set(half[1:]) != api.OK || item("f") != api.OK || s.Used() != api.MaxMemory || item("f") != api.ErrMemory {
		t.Error("full again:", s.Used())
	}
}

// P18.3: kinds that there are, and all others; the kind's error comes ahead of the quota's.
func TestPush(t *testing.T) {
	for kind := range 256 {
		x := api.Item{Kind: api.ItemKind(kind), Text: "ab"}
		right := x.Kind == api.ItemText || x.Kind == api.ItemFile || x.Kind == api.ItemLine
		for quota := range 4 {
			s := made(t, quota)
			why := s.Push(x)
			switch {
			case !right && (why != api.ErrRange || len(s.Queue()) != 0):
				t.Errorf("kind %d: error %d", kind, why)
			case right && quota < 2 && (why != api.ErrMemory || len(s.Queue()) != 0):
				t.Errorf("kind %d, quota %d: error %d", kind, quota, why)
			case right && quota >= 2 && (why != api.OK || !slices.Equal(s.Queue(), []api.Item{x})):
				t.Errorf("kind %d, quota %d: error %d", kind, quota, why)
			}
		}
	}
}

// P18.7: Swap twice; Put, then Get; Drop till nothing is left.
func TestFollows(t *testing.T) {
	chance := rand.New(rand.NewSource(187)).Intn
	letters := "ab\n\n\x00\xff"
	text := func() string {
		var out []byte
		for range chance(12) {
			out = append(out, letters[chance(len(letters))])
		}
		return string(out)
	}
	for range 5000 {
		s := made(t, 1000)
		s.Set(text())
		s.Put()
		whole := text()
		s.Set(whole)
		was := stands(s)
		if s.Swap() != api.OK || s.Swap() != api.OK || stands(s) != was {
			t.Fatalf("Swap twice of %s: %s", was, stands(s))
		}
		if s.Put() != api.OK || s.Get() != api.OK || s.Pattern() != whole || s.Hold() != whole {
			t.Fatalf("Put and Get of %q: %s", whole, stands(s))
		}
		var lines []string
		for range strings.Count(whole, n) + 1 {
			line, more := s.First()
			lines = append(lines, line)
			if dropped, why := s.Drop(); dropped != more || why != api.OK {
				t.Fatalf("Drop of %q: %v, %d", whole, dropped, why)
			}
		}
		if s.Pattern() != "" || strings.Join(lines, n) != whole || s.Hold() != whole {
			t.Fatalf("%q in lines is %q, %s", whole, lines, stands(s))
		}
	}
}

// P18.8: the queue comes out as it went in, once.
func TestQueue(t *testing.T) {
	s := made(t, 1<<20)
	for round := range 20 {
		var want []api.Item
		for i := range 10 * round {
			x := api.Item{Kind: api.ItemKind(1 + i%3), Text: strings.Repeat("t", i%7)}
			want = append(want, x)
			if s.Push(x) != api.OK || !slices.Equal(s.Queue(), want) {
				t.Fatal(itemsTold(s.Queue()))
			}
		}
		if l, why := s.Take(); why != api.OK || !slices.Equal(l, want) || s.Used() != 0 || len(s.Queue()) != 0 {
			t.Fatal(itemsTold(l), why)
		}
	}
}

// P18.4: a nil space.
func TestNil(t *testing.T) {
	var s *space.Space
	line, more := s.First()
	dropped, why := s.Drop()
	l, no := s.Take()
	if s.Pattern() != "" || s.Hold() != "" || s.Queue() != nil || s.Used() != 0 || line != "" || more || dropped || why != api.ErrNil || l != nil || no != api.ErrNil {
		t.Error(stands(s), dropped, why, l, no)
	}
	for i, why := range []api.Errno{s.Set(""), s.Set("a"), s.Join("a"), s.Get(), s.GetMore(), s.Put(), s.PutMore(), s.Swap(), s.Push(api.Item{Kind: api.ItemText}), s.Push(api.Item{})} {
		if why != api.ErrNil {
			t.Errorf("call %d: error %d", i, why)
		}
	}
}

// P18.4: answers share no memory with the space, nor with one another; the texts share none.
func TestMemory(t *testing.T) {
	s := made(t, 1000)
	s.Set("ab\ncd")
	s.Put()
	s.Join("x")
	s.PutMore()
	if s.Pattern() != "ab\ncd\nx" || s.Hold() != "ab\ncd\nab\ncd\nx" {
		t.Error(stands(s))
	}
	s.Get()
	s.Join("1")
	s.Swap()
	s.Join("2")
	s.Drop()
	s.PutMore()
	s.Join("3")
	if s.Pattern() != "cd\nab\ncd\nx\n2\n3" || s.Hold() != "ab\ncd\nab\ncd\nx\n1\ncd\nab\ncd\nx\n2" {
		t.Error(stands(s))
	}
	early, first := s.Pattern(), s.Queue()
	for range 5 {
		s.Push(api.Item{Kind: api.ItemText, Text: "t"})
	}
	blot := func(l []api.Item) {
		for i := range l[:cap(l)] {
			l[:cap(l)][i] = api.Item{Kind: 77}
		}
	}
	want := slices.Repeat([]api.Item{{Kind: api.ItemText, Text: "t"}}, 5)
	second := s.Queue()
	third := s.Queue()
	blot(second)
	taken, _ := s.Take()
	s.Push(api.Item{Kind: api.ItemLine, Text: "u"})
	if len(first) != 0 || !slices.Equal(third, want) || !slices.Equal(taken, want) {
		t.Error(itemsTold(first), itemsTold(third), itemsTold(taken))
	}
	blot(taken)
	s.Push(api.Item{Kind: api.ItemLine, Text: "v"})
	if got := itemsTold(s.Queue()); got != `3"u" 3"v"` {
		t.Error(got)
	}
	s.Set("other")
	if early != "cd\nab\ncd\nx\n2\n3" {
		t.Error("an answer has changed:", early)
	}
}

// P4: two spaces have nothing to do with one another.
func TestTwo(t *testing.T) {
	a, b := made(t, 10), made(t, 3)
	a.Set("abcd")
	a.Push(api.Item{Kind: api.ItemText, Text: "x"})
	b.Set("ef")
	a.Put()
	if b.Pattern() != "ef" || b.Hold() != "" || b.Used() != 2 || len(b.Queue()) != 0 || b.Join("") != api.OK || a.Pattern() != "abcd" || a.Used() != 9 {
		t.Error(stands(a), stands(b))
	}
}

// P18.2: joined line by line, and dropped so, a long text costs no more than its bytes.
func TestLong(t *testing.T) {
	const lines = 200000
	s := made(t, api.MaxMemory)
	s.Set("line")
	for range lines - 1 {
		if s.Join("line") != api.OK {
			t.Fatal("Join:", s.Used())
		}
	}
	if s.Used() != 5*lines-1 || s.Pattern() != strings.Repeat("line\n", lines)[:5*lines-1] {
		t.Fatal(s.Used())
	}
	for i := range lines {
		if line, _ := s.First(); line != "line" {
			t.Fatal(i, line)
		}
		if more, why := s.Drop(); more != (i < lines-1) || why != api.OK {
			t.Fatal(i, more, why)
		}
	}
	if s.Used() != 0 || s.Pattern() != "" {
		t.Error(s.Used())
	}
}
