package tidy_test

import (
	"math/rand"
	"slices"
	"strings"
	"testing"

	"paddock/api"
	"paddock/pretty"
	"paddock/program"
	"paddock/reeds"
	"paddock/rushes"
	"paddock/script"
	"paddock/tidy"
)

// written is a script's text, tidied; LFs are told as a slash.
func written(t *testing.T, s string, extended bool) string {
	t.Helper()
	less, why := tidy.Script(reeds.Read(t, s, extended))
	out, no := pretty.Print(less)
	if why != api.OK || no != api.OK {
		t.Fatalf("%q: errors %d, %d", s, why, no)
	}
	return strings.ReplaceAll(out, "\n", "/")
}

// become asks what scripts are, tidied.
func become(t *testing.T, all map[string]string) {
	t.Helper()
	for s, want := range all {
		if got := written(t, s, false); got != want {
			t.Errorf("%q: %q, not %q", s, got, want)
		}
	}
}

// The chapter's examples, and that of the whole.
func TestExamples(t *testing.T) {
	become(t, map[string]string{
		"b e;p;=\n:e":       "",
		"{p\n}":             "p/",
		"1{p\n}":            "1p/",
		"1,2{c\\\nx\n}":     "1,2{/c\\/x/}/",
		"1,2{=\n}":          "1,2=/",
		"x;x;p":             "p/",
		"h;h":               "h/",
		"/a/{\n}":           "/a/{/}/",
		"b e\nw f\n:e":      "b/wf/",
		"1{x;x\n}":          "",
		"1{p;p\n};b e;d;:e": "1{/p/p/}/",
	})
	if n, why := tidy.Saved(rushes.Read(t, "b e\nw f\n:e", false), false); n != 0 || why != api.OK {
		t.Errorf("Saved: %d, error %d", n, why)
	}
}

// Each rule where it holds, and where something keeps it from holding.
func TestRules(t *testing.T) {
	become(t, map[string]string{
		"":      "",
		"p":     "p/",
		"#n\np": "#n/p/",

		// 1: dead steps, but such as keep a file, and blocks
		"d;p;=":                    "d/",
		"q;s/a/b/;y/a/b/;e ls":     "q/",
		"d;s/a/b/w f":              "d/s/a/b/w f/",
		"d\nW f":                   "d/Wf/",
		"d\nr f":                   "d/",
		"d\nw /dev/stdout":         "d/w/dev/stdout/",
		"d;/a/{p;p\n}":             "d/",
		"d;/a/{p\nw f\np\n}":       "d//a/wf/",
		"d;/a/{\n}":                "d//a/{/}/",
		"d;1{p;p\n}":               "d/",
		"d;1{p\nw f\np\n}":         "d/1wf/",
		"d;1{w f\nw g\n}":          "d/1{/wf/wg/}/",
		"1d;p":                     "1d/p/",
		"!d;p":                     "!d/p/",
		"n;p":                      "n/p/",
		"1!{b\n};p":                "1!b/p/",
		"!{p\n}":                   "!p/",
		"!{p;p\n}":                 "!p/",
		"bx;p;:y;=;b;:x;P;by":      "bl2/:l1/=/b/:l2/P/bl1/",
		"b x;p;:x;=":               "=/",
		"b x;p;t x;:x;=":           "=/",
		":a;ba;p":                  ":l1/bl1/",
		"1{q;p\n};=":               "1q/=/",
		"1{d;p;=;l\n};=":           "1d/=/",
		"t x;d;p;:x;=":             "tl1/d/:l1/=/",
		"d;b x;:x;p":               "d/",
		"d;b x\nw f\n:x;p":         "d/wf/",
		"b x\nw f\nb y\n:x;p;:y;=": "bl1/wf/:l1/p/=/",

		// 2: blocks without anything, which look for nothing
		"1{\n};p":            "p/",
		"1!{\n};p":           "p/",
		"!{\n};p":            "p/",
		"$!{\n}":             "",
		"2,4{\n}":            "",
		"0~3{\n}":            "",
		"2,+3!{\n}":          "",
		"/a/,3{\n}":          "/a/,3{/}/",
		"3,/a/{\n}":          "3,/a/{/}/",
		"//{\n};p":           "//{/}/p/",
		"/a/!{\n}":           "/a/!{/}/",
		"1{2{3{\n};\n};\n}":  "",
		"1{/a/{\n}\n}":       "1{//a/{/}/}/",
		"1{\n};tx;p;:x;$p":   "tl1/p/:l1/$p/",
		":x;1{\n};p;tx":      ":l1/p/tl1/",
		"p;1{:x\n};=;tx":     "p/:l1/=/tl1/",
		"1{b e;p\n};:e;=":    "=/",
		"1{b e\n};p;:e;=":    "1bl1/p/:l1/=/",
		"/a/{b e;p\n};:e;=":  "/a/bl1/:l1/=/",
		"/a/{b e\n};p;:e;$=": "/a/bl1/p/:l1/$=/",

		// 3: jumps to where one goes anyway; t and T are none
		"bx;:x;p":              "p/",
		"b":                    "",
		"1b;:y":                "",
		"!b":                   "",
		"1,3!bx;:x;p":          "p/",
		"/a/b":                 "/a/b/",
		"1,/a/b":               "1,/a/b/",
		"//bx;:x;p":            "//bl1/:l1/p/",
		"t":                    "t/",
		"1T":                   "1T/",
		"p;b;:x":               "p/",
		"b;b;b":                "",
		"1b;2b;3b":             "",
		":a;bb;:b;p;ba":        ":l1/p/bl1/",
		"1{p;b x\n};:x;=":      "1p/=/",
		"bx;:x;by;:y;bz;:z;$p": "$p/",

		// 4: bare blocks
		"{\n}":             "",
		"{p;p\n}":          "p/p/",
		"{{{p\n};\n};=\n}": "p/=/",
		"1{{p;=\n};\n}":    "1{/p/=/}/",
		"{/a/{p;p\n};\n}":  "/a/{/p/p/}/",
	})
}

// Rules 5 and 6, where they hold, and where something keeps them from holding.
func TestMerging(t *testing.T) {
	become(t, map[string]string{
		"1!{p\n}":                   "1!p/",
		"/a/,/b/{s//x/\n}":          "/a/,/b/s//x//",
		"0,/a/{p\n}":                "0,/a/p/",
		"2~3!{y/a/b/\n}":            "2~3!y/a/b//",
		"1{c\\\nx\n}":               "1c\\/x/",
		"1!{c\\\nx\n}":              "1!c\\/x/",
		"1,2!{c\\\nx\n}":            "1,2!{/c\\/x/}/",
		"1{q5\n}":                   "1q5/",
		"/a/{Q\n}":                  "/a/Q/",
		"1,2{q\n}":                  "1,2{/q/}/",
		"1,2{Q\n}":                  "1,2{/Q/}/",
		"1,2{d\n}":                  "1,2d/",
		"1,2{r f\n}":                "1,2rf/",
		"1,2{w f\n}":                "1,2wf/",
		"1,2{a\\\nx\n}":             "1,2a\\/x/",
		"1,2{e ls\n}":               "1,2els/",
		"1,2{l 5\n}":                "1,2l5/",
		"1{2p\n}":                   "1{/2p/}/",
		"1{!p\n}":                   "1{/!p/}/",
		"1{/a/{p\n}\n}":             "1{//a/p/}/",
		"/a/{/b/{\n}\n}":            "/a/{//b/{/}/}/",
		"1{:x;p\n};$!bx":            "1{/:l1/p/}/$!bl1/",
		"1{:x;p\n};tx":              "1{/:l1/p/}/tl1/",
		"1{:x;p\n};Tx":              "1{/:l1/p/}/Tl1/",
		":x;1{p\n};tx":              ":l1/1p/tl1/",
		"1{p\n};:x;=;tx":            "1p/:l1/=/tl1/",
		"1{t x\n};p;:x":             "1t/p/",
		"1{:x;tx\n};p":              "1{/:l1/tl1/}/p/",
		":x;1{bx\n};p":              ":l1/1bl1/p/",
		"1{{2{p\n}\n}\n}":           "1{/2p/}/",
		"1{x;x;p\n}":                "1p/",
		"1{p\n};2{=\n};3{l\n}":      "1p/2=/3l/",
		"1{p;b x\n};=;:x;$p":        "1{/p/bl1/}/=/:l1/$p/",
		"1{b x\n};2{p\n};:x;l;$!tx": "1bl1/2p/:l1/l/$!tl1/",

		"g;g;p":          "g/p/",
		"z;z;z;z":        "z/",
		"h;h;h":          "h/",
		"x;x;x":          "x/",
		"x;x;x;x":        "",
		"x;g;g;x":        "x/g/x/",
		"h;x;x;h":        "h/",
		"G;G":            "G/G/",
		"H;H":            "H/H/",
		"p;p":            "p/p/",
		"1h;h":           "1h/h/",
		"h;1h":           "h/1h/",
		"1h;1h":          "1h/1h/",
		"h;!h":           "h/!h/",
		"g;h":            "g/h/",
		"x;:a;x;ta":      "x/:l1/x/tl1/",
		"h;:a;h;$!ba":    "h/:l1/h/$!bl1/",
		":a;x;x;ta":      ":l1/tl1/",
		":a;h;h;:b;ta":   ":l1/h/tl1/",
		"1{x\n};x":       "1x/x/",
		"1{p;x\n};x":     "1{/p/x/}/x/",
		"1{p;x\n};x;x;p": "1{/p/x/}/p/",
		"/a/{x;x\n};p":   "/a/{/}/p/",
		"$!{h;h\n};p":    "$!h/p/",
		"1,3{z;z;p\n}":   "1,3{/z/p/}/",
		"{x\n};x;p":      "p/",
		"x;b a;:a;x;p":   "p/",
		"x;b a;p;:a;x;=": "=/",
		"x;1{\n};x":      "",
		"x;x;b;x;x":      "",
		"p;x;x;ta;x;:a":  "p/t/x/",
	})
}

// P28.1: grown programs against the second reading; each rule is met often.
func TestTidy(t *testing.T) {
	chance := rand.New(rand.NewSource(281)).Intn
	grower := rushes.NewGrower(t, chance)
	var all [7]int
	for n := range 8000 {
		p := grown(t, chance)
		if n%4 == 0 {
			p = grower.Grow(chance(12))
		}
		want, used := tidied(t, p, false)
		for i := range all {
			all[i] += used[i]
		}
		got, why := tidy.Tidy(p, false)
		saved, no := tidy.Saved(p, false)
		if why != api.OK || no != api.OK || rushes.Show(got) != rushes.Show(want) || saved != len(p.Steps)-len(want.Steps) {
			t.Fatalf("%s\nerrors %d, %d, saved %d:\n%s\nnot\n%s", rushes.Show(p), why, no, saved, rushes.Show(got), rushes.Show(want))
		}
		if !slices.Equal(rushes.Places(got), rushes.Places(want)) {
			t.Fatalf("%s\nplaces %v, not %v", rushes.Show(p), rushes.Places(got), rushes.Places(want))
		}
	}
	if slices.Min(all[1:]) < 200 {
		t.Error("a rule is hardly met:", all)
	}
}

// P28.1: what is no right program, is refused, and nothing stands beside the error.
func TestRefused(t *testing.T) {
	chance := rand.New(rand.NewSource(2811)).Intn
	grower := rushes.NewGrower(t, chance)
	wrong := 0
	for range 4000 {
		p := grower.Grow(chance(8))
		grower.Spoil(&p)
		extended := chance(2) == 0
		want, _ := program.Check(p, extended)
		got, why := tidy.Tidy(p, extended)
		saved, no := tidy.Saved(p, extended)
		if why != want || no != want {
			t.Fatalf("%s\nerrors %d, %d, not %d", rushes.Show(p), why, no, want)
		}
		if want != api.OK {
			wrong++
			if rushes.Show(got) != rushes.Show(api.Program{}) || saved != 0 {
				t.Fatalf("%s\nbeside an error: %s, %d", rushes.Show(p), rushes.Show(got), saved)
			}
		}
	}
	if wrong < 500 {
		t.Error("only a few are wrong:", wrong)
	}
	p := rushes.Read(t, "s/(a)+/\\1/;x;x", true)
	if _, why := tidy.Tidy(p, false); why != api.ErrProgram {
		t.Error("an extended one as a basic one: error", why)
	}
	if got, why := tidy.Tidy(p, true); why != api.OK || len(got.Steps) != 1 {
		t.Error("an extended one: error", why)
	}
	if n, why := tidy.Saved(p, true); why != api.OK || n != 2 {
		t.Errorf("an extended one: %d, error %d", n, why)
	}
	if n, why := tidy.Saved(p, false); why != api.ErrProgram || n != 0 {
		t.Errorf("an extended one as a basic one: %d, error %d", n, why)
	}
}

// P28.2: a script is that of its program, tidied; a wrong one is refused.
func TestScript(t *testing.T) {
	chance := rand.New(rand.NewSource(282)).Intn
	wrong := 0
	for range 4000 {
		extended := chance(3) == 0
		s := reeds.Read(t, text(chance, chance(12)), extended)
		if chance(3) == 0 {
			reeds.Spoil(chance, &s)
		}
		got, why := tidy.Script(s)
		p, no, _ := program.Make(s)
		if no != api.OK {
			wrong++
			if why != api.ErrScript || reeds.Show(got) != reeds.Show(api.Script{}) {
				t.Fatalf("%s\nis wrong: error %d, %s", reeds.Show(s), why, reeds.Show(got))
			}
			continue
		}
		less, _ := tidied(t, p, s.Extended)
		want, _ := program.Back(less, s.Extended)
		if why != api.OK || !script.Same(got, want) || !slices.Equal(reeds.Places(got), reeds.Places(want)) {
			t.Fatalf("%s\nerror %d: %s\nnot %s", reeds.Show(s), why, reeds.Show(got), reeds.Show(want))
		}
	}
	if wrong < 200 {
		t.Error("only a few are wrong:", wrong)
	}
	if got := written(t, "s/(a)+/\\1/;{x;x\n}", true); got != "s/(a)+/\\1//" {
		t.Errorf("an extended one: %q", got)
	}
}
