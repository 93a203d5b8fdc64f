package reach_test

import (
	"fmt"
	"math/rand"
	"slices"
	"strings"
	"testing"

	"paddock/api"
	"paddock/program"
	"paddock/reach"
	"paddock/reeds"
	"paddock/rushes"
)

// show tells all of a reach in words.
func show(r api.Reach) string {
	var out []string
	for _, live := range r.Live {
		out = append(out, map[bool]string{true: "live", false: "dead"}[live])
	}
	out = append(out, fmt.Sprintf("%q %q", append([]string{}, r.Reads...), append([]string{}, r.Written...)))
	for _, flag := range []struct {
		set  bool
		name string
	}{{r.Exec, "exec"}, {r.Quits, "quits"}, {r.Again, "again"}} {
		if flag.set {
			out = append(out, flag.name)
		}
	}
	return strings.Join(out, " ")
}

// The chapter's examples.
func TestExamples(t *testing.T) {
	for s, want := range map[string]string{
		"b e;p;w x\n:e;=":      "live dead dead live [] []",
		"p":                    "live [] []",
		"q;p":                  "live dead [] [] quits",
		"1q;p":                 "live live [] [] quits",
		":a;s/x/y/;ta":         "live live [] [] again",
		"p;1{d;p};=":           "live live live dead live [] []",
		"$!{N;b\n};r f":        `live live live live ["f"] []`,
		"1{p;p};=":             "live live live live [] []",
		"$!{N;b};r f\nb z\n:z": `live live live live live ["f"] []`,
	} {
		got, why := reach.Of(rushes.Read(t, s, false), false)
		if why != api.OK || show(got) != want {
			t.Errorf("Of(%q) = %s, error %d", s, show(got), why)
		}
	}
	if p := rushes.Read(t, "b e;p;w x\n:e;=", false); p.Steps[0].To != 3 || !slices.Equal(p.Files, []string{"x"}) {
		t.Error("a dead w is none of the program's Files:", rushes.Show(p))
	}
	for s, want := range map[string]string{":a;s/x/y/;ta": "0 false", "p;1{d;p};=": "3 true", "": "0 true"} {
		n, ok, why := reach.Bound(rushes.Read(t, s, false), false)
		if got := fmt.Sprint(n, ok); why != api.OK || got != want {
			t.Errorf("Bound(%q) = %s, error %d", s, got, why)
		}
	}
	if w, ok, why := reach.Way(rushes.Read(t, "1{p;p};=", false), false, 3); !ok || why != api.OK || !slices.Equal(w, []int{0, 3}) {
		t.Error("Way:", w, ok, why)
	}
}

// P16.2: each thing that is told, by live steps alone.
func TestOf(t *testing.T) {
	for s, want := range map[string]string{
		"":                              "[] []",
		"r a\nR b\nr a\n1R c":           `live live live live ["a" "b" "c"] []`,
		"w a\nW b\ns/x/y/w c\nw b":      `live live live live [] ["a" "b" "c"]`,
		"s/x/y/w a\nW a\nr a":           `live live live ["a"] ["a"]`,
		"s/x/y/":                        "live [] []",
		"w /dev/stdout":                 `live [] ["/dev/stdout"]`,
		"w b\nw a\nw b\nr d\nr c\nr d":  `live live live live live live ["d" "c"] ["b" "a"]`,
		"e":                             "live [] [] exec",
		"e ls":                          "live [] [] exec",
		"1!e ls":                        "live [] [] exec",
		"s/x/y/e":                       "live [] [] exec",
		"s/x/y/ew f":                    `live [] ["f"] exec`,
		"d;e":                           "live dead [] []",
		"d;s/x/y/e":                     "live dead [] []",
		"d;q":                           "live dead [] []",
		"Q":                             "live [] [] quits",
		"1Q;p":                          "live live [] [] quits",
		"!q":                            "live [] [] quits",
		"q;r a\nw b\ne":                 "live dead dead dead [] [] quits",
		"c\\\nx\np":                     "live dead [] []",
		"1c\\\nx\np":                    "live live [] []",
		"D;p":                           "live dead [] []",
		"n;p":                           "live live [] []",
		"!{p;p;};p":                     "live dead dead live [] []",
		"!{p;:a;p;};ta":                 "live dead live live [] [] again",
		"!b;p":                          "live live [] []",
		"b;p":                           "live dead [] []",
		"t;p":                           "live live [] []",
		":a;ba":                         "live [] [] again",
		":a;1ba":                        "live [] [] again",
		":a;p;1ba":                      "live live [] [] again",
		"b;:a;ba":                       "live dead [] []",
		"bz;:a;p;ta;:z;=":               "live dead dead live [] []",
		"n;:a;D;ba":                     "live live dead [] []",
		"1{b a\n};d;:a;p;b c\n:b;q;:c":  "live live live live live dead [] []",
		"i\\\nx\na\\\nx\nl;y/a/b/;=;z":  "live live live live live live [] []",
		"{};{{}}":                       "live live live [] []",
		"s/a/b/;T;w f\nb\nw g\ns//x/we": `live live live live dead dead [] ["f"]`,
	} {
		got, why := reach.Of(rushes.Read(t, s, false), false)
		if why != api.OK || show(got) != want {
			t.Errorf("Of(%q) = %s, error %d, not %s", s, show(got), why, want)
		}
	}
}

// P16.3: ways, and how long they may be.
func TestWays(t *testing.T) {
	for s, want := range map[string]string{
		"p":                                 "[0] 1 true",
		"p;p;p":                             "[0] [0 1] [0 1 2] 3 true",
		"q;p":                               "[0] none 1 true",
		"1q;p":                              "[0] [0 1] 2 true",
		"b":                                 "[0] 1 true",
		"1b x\np;p;:x;p":                    "[0] [0 1] [0 1 2] [0 3] 4 true",
		"1b x\n2b y\n:x;p;:y;p":             "[0] [0 1] [0 2] [0 1 3] 4 true",
		"1b x\n2b x\n:y;q;:x;b y":           "[0] [0 1] [0 1 2] [0 3] 4 true",
		":a;p;b a":                          "[0] [0 1] 0 false",
		"b b;:a;=;q;:b;1b a;t a;T a":        "[0] [0 3 1] [0 3 1 2] [0 3] [0 3 4] [0 3 4 5] 6 true",
		"1{p;2{d\n};q\n};=":                 "[0] [0 1] [0 1 2] [0 1 2 3] [0 1 2 4] [0 5] 4 true",
		"1{n;b\n};1b e\n2b f\n:e;t f\n:f;=": "[0] [0 1] [0 1 2] [0 3] [0 3 4] [0 3 5] [0 3 4 6] 5 true",
	} {
		p := rushes.Read(t, s, false)
		var got []string
		for i := range p.Steps {
			w, ok, why := reach.Way(p, false, i)
			if why != api.OK || ok != (len(w) > 0) {
				t.Errorf("%q: Way to %d: %v, %v, error %d", s, i, w, ok, why)
			}
			if ok {
				got = append(got, fmt.Sprint(w))
			} else {
				got = append(got, "none")
			}
		}
		n, ok, why := reach.Bound(p, false)
		got = append(got, fmt.Sprint(n, ok))
		if told := strings.Join(got, " "); told != want || why != api.OK {
			t.Errorf("%q: %s, error %d, not %s", s, told, why, want)
		}
	}
}

// P16.1, P16.3: errors, and which of two is told.
func TestErrors(t *testing.T) {
	right := rushes.Read(t, "1{p;r f\n};w g\n:a;ta", false)
	zero := func(p api.Program, extended bool, i int, want api.Errno) {
		t.Helper()
		if w, ok, why := reach.Way(p, extended, i); why != want || ok || len(w) > 0 {
			t.Errorf("Way: %v, %v, error %d, not %d", w, ok, why, want)
		}
	}
	for _, i := range []int{-1 << 63, -2, -1, 5, 6, 1<<63 - 1} {
		zero(right, false, i, api.ErrRange)
		zero(api.Program{}, true, i, api.ErrRange)
	}
	zero(api.Program{}, false, 0, api.ErrRange)
	spoilt := func(change func(*api.Program)) api.Program {
		p := rushes.Clone(right)
		change(&p)
		return p
	}
	for k, p := range []api.Program{
		spoilt(func(p *api.Program) { p.Steps[0].To = 0 }),
		spoilt(func(p *api.Program) { p.Steps[4].To = 6 }),
		spoilt(func(p *api.Program) { p.Steps[4].To = -1 }),
		spoilt(func(p *api.Program) { p.Steps[1].To = 1 }),
		spoilt(func(p *api.Program) { p.Steps[1].Command.Name = '}' }),
		spoilt(func(p *api.Program) { p.Steps[1].Command.Name = 'k' }),
		spoilt(func(p *api.Program) { p.Steps[4].Command.Text = "a" }),
		spoilt(func(p *api.Program) { p.Files = nil }),
		spoilt(func(p *api.Program) { p.Files = []string{"g", "f"} }),
		{Files: []string{""}},
		{Steps: slices.Repeat([]api.Step{{Command: api.Command{Name: 'p'}}}, api.MaxCommand+1)},
	} {
		if r, why := reach.Of(p, false); why != api.ErrProgram || show(r) != show(api.Reach{}) {
			t.Errorf("%d: Of: error %d, %s", k, why, show(r))
		}
		if n, ok, why := reach.Bound(p, false); why != api.ErrProgram || ok || n != 0 {
			t.Errorf("%d: Bound: %d, %v, error %d", k, n, ok, why)
		}
		for _, i := range []int{-1, 0, 1, 9999} {
			zero(p, false, i, api.ErrProgram)
		}
	}
	basic, extended := rushes.Read(t, "/(a)/p", false), rushes.Read(t, "/(a)/p", true)
	for _, c := range []struct {
		p        api.Program
		extended bool
		want     api.Errno
	}{{basic, false, api.OK}, {basic, true, api.ErrProgram}, {extended, true, api.OK}, {extended, false, api.ErrProgram}} {
		r, why := reach.Of(c.p, c.extended)
		_, bounded, none := reach.Bound(c.p, c.extended)
		_, ok, no := reach.Way(c.p, c.extended, 0)
		if is := c.want == api.OK; why != c.want || none != c.want || no != c.want || ok != is || bounded != is || (len(r.Live) == 1) != is {
			t.Errorf("extended %v: errors %d, %d, %d, not %d", c.extended, why, none, no, c.want)
		}
	}
}

// agree holds all that is told of a program against the second reading.
func agree(t *testing.T, p api.Program, extended bool) {
	t.Helper()
	want := reached(p)
	got, why := reach.Of(p, extended)
	if why != api.OK || show(got) != show(want) {
		t.Fatalf("Of is %s, error %d, not %s:\n%s", show(got), why, show(want), rushes.Show(p))
	}
	for i := range p.Steps {
		way, live := shortest(p, i)
		w, ok, why := reach.Way(p, extended, i)
		if why != api.OK || ok != live || !slices.Equal(w, way) || live != want.Live[i] {
			t.Fatalf("Way to %d is %v, %v, error %d, not %v:\n%s", i, w, ok, why, way, rushes.Show(p))
		}
	}
	most, once := bound(p)
	n, ok, why := reach.Bound(p, extended)
	if why != api.OK || n != most || ok != once || ok == want.Again {
		t.Fatalf("Bound is %d, %v, error %d, not %d, %v:\n%s", n, ok, why, most, once, rushes.Show(p))
	}
}

// P16.2, P16.3: programs of all kinds.
func TestGrown(t *testing.T) {
	chance := rand.New(rand.NewSource(1)).Intn
	g := rushes.NewGrower(t, chance)
	for i := range 8000 {
		agree(t, g.Grow(chance(9)), i%2 == 0)
	}
	for i := range 2000 {
		extended := i%2 == 0
		agree(t, rushes.Read(t, reeds.Grow(chance, chance(8)), extended), extended)
	}
}

// P16.2, P16.3: all programs of three steps, and less, that go on in unlike ways.
func TestAll(t *testing.T) {
	var grow func(p api.Program, left, steps int)
	seen := 0
	put := func(p api.Program, c api.Command, to, left, steps int) {
		p.Steps = append(slices.Clone(p.Steps), api.Step{Command: c, To: to})
		grow(p, left-1, steps)
	}
	once := api.Addr{Kind: api.AddrLine, N: 1}
	grow = func(p api.Program, left, steps int) {
		if left == 0 {
			if why, _ := program.Check(p, false); why == api.OK {
				seen++
				agree(t, p, false)
			}
			return
		}
		for _, name := range []byte("pdqn") {
			put(p, api.Command{Name: name}, 0, left, steps)
		}
		put(p, api.Command{Name: 'd', First: once}, 0, left, steps)
		for to := range steps + 1 {
			for _, c := range []api.Command{{Name: 'b'}, {Name: 't'}, {Name: 'b', Not: true}, {Name: '{'}, {Name: '{', Not: true}, {Name: '{', First: once}} {
				put(p, c, to, left, steps)
			}
		}
	}
	for steps := range 4 {
		grow(api.Program{}, steps, steps)
	}
	if seen < 8000 {
		t.Error("programs:", seen)
	}
}

// P16.3: programs as long as they may be, with more ways than can be gone one by one.
func TestLong(t *testing.T) {
	once := api.Addr{Kind: api.AddrLine, N: 1}
	many := func(n int, step func(i int) api.Step) api.Program {
		var p api.Program
		for i := range n {
			p.Steps = append(p.Steps, step(i))
		}
		return p
	}
	chain := many(api.MaxCommand, func(int) api.Step { return api.Step{Command: api.Command{Name: 'p'}} })
	const jumps = api.MaxCommand/2 + 1 // the last two go to the end, and need no labels
	skips := many(jumps, func(i int) api.Step {
		return api.Step{Command: api.Command{Name: 'b', First: once}, To: min(i+2, jumps)}
	})
	loop := rushes.Clone(skips)
	loop.Steps[jumps-1].To = jumps - 1
	for k, c := range []struct {
		p      api.Program
		bound  int
		once   bool
		way, n int // the length of the way to the step n
	}{
		{chain, api.MaxCommand, true, api.MaxCommand, api.MaxCommand - 1},
		{skips, jumps, true, jumps/2 + 1, jumps - 1},
		{loop, 0, false, jumps/2 + 1, jumps - 1},
	} {
		r, why := reach.Of(c.p, false)
		if why != api.OK || r.Again == c.once || slices.Contains(r.Live, false) || len(r.Live) != len(c.p.Steps) {
			t.Errorf("%d: Of: error %d, again %v", k, why, r.Again)
		}
		if n, ok, why := reach.Bound(c.p, false); n != c.bound || ok != c.once || why != api.OK {
			t.Errorf("%d: Bound: %d, %v, error %d", k, n, ok, why)
		}
		if w, ok, why := reach.Way(c.p, false, c.n); len(w) != c.way || !ok || why != api.OK {
			t.Errorf("%d: Way: %d steps, %v, error %d", k, len(w), ok, why)
		}
	}
}
