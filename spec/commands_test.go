package spec_test

import (
	"strings"
	"testing"

	"paddock/api"
	"paddock/marsh"
	"paddock/spec"
)

// told is the output, and what stands in its files and edits, of a run.
func told(m api.Meaning) string {
	all := []string{spec.Text(m.Effects, out, "")}
	for _, e := range m.Effects {
		name := e.Name + ": "
		if e.Kind != out && !strings.Contains(strings.Join(all, "\x00"), name) {
			all = append(all, name+spec.Text(m.Effects, e.Kind, e.Name))
		}
	}
	return strings.ReplaceAll(strings.Join(all, "|"), "\n", "/")
}

// expect runs scripts with some options over one world; LFs are told as a slash.
func expect(t *testing.T, o api.Options, w api.World, want map[string]string) {
	t.Helper()
	for s, x := range want {
		if m := run(t, s, o, w); told(m) != x {
			t.Errorf("%q: %q, not %q", s, told(m), x)
		}
	}
}

// Commands that print and write.
func TestPrinting(t *testing.T) {
	expect(t, api.Options{}, marsh.Inputs("a\nbc\n"), map[string]string{
		"":                         "a/bc/",
		"p":                        "a/a/bc/bc/",
		"#n\np":                    "a/bc/",
		"=":                        "1/a/2/bc/",
		"$=":                       "a/2/bc/",
		"F":                        "in1/a/in1/bc/",
		"i\\\nx\\\ny":              "x/y/a/x/y/bc/",
		"a\\\nx\\\ny":              "a/x/y/bc/x/y/",
		"a x\np":                   "a/a/x/bc/bc/x/",
		"a x\nn":                   "a/x/bc/",
		"a x\ni\\\ny":              "y/a/x/y/bc/x/",
		"a x\nd":                   "x/x/",
		"a x\n1q":                  "a/x/",
		"a x\n1Q":                  "",
		"a x\nN":                   "x/a/bc/",
		"$!N;P":                    "a/a/bc/",
		"P":                        "a/a/bc/bc/",
		"s/a/x\\ny/;P":             "x/x/y/bc/bc/",
		"l":                        "a$/a/bc$/bc/",
		"N;l":                      "a\\nbc$/a/bc/",
		"N;l 4":                    "a\\n\\/bc$/a/bc/",
		"N;l 1":                    "a\\nbc$/a/bc/",
		"N;l 0":                    "a\\nbc$/a/bc/",
		"w o":                      "a/bc/|o: a/bc/",
		"s/a/x\\ny/;W o":           "x/y/bc/|o: x/bc/",
		"1w o\n$w u":               "a/bc/|o: a/|u: bc/",
		"w /dev/stdout":            "a/a/bc/bc/",
		"W /dev/stdout":            "a/a/bc/bc/",
		"s/b/x/w o":                "a/xc/|o: xc/",
		"s/b/x/pw /dev/stdout":     "a/xc/xc/xc/",
		"2!d":                      "bc/",
		"z":                        "//",
		"z;p":                      "////",
		"y/abc/xyz/":               "x/yz/",
		"N;y/\\n/-/":               "a-bc/",
		"x":                        "/a/",
		"x;G":                      "/a/a/bc/",
		"h;G":                      "a/a/bc/bc/",
		"H;g":                      "/a//a/bc/",
		"H;x;$!d":                  "a/bc/",
		"g":                        "//",
		"1h;2G":                    "a/bc/a/",
		"n;d":                      "a/",
		"N;N;d":                    "a/bc/",
		"$!N;s/\\n/-/":             "a-bc/",
		"1{p;s/a/x/p}":             "a/x/x/bc/",
		"2{p}":                     "a/bc/bc/",
		"2!{p;p}":                  "a/a/a/bc/",
		"!p":                       "a/bc/",
		"!{p}":                     "a/bc/",
		"{p;{p}}":                  "a/a/a/bc/bc/bc/",
		"b;p":                      "a/bc/",
		"bx;p\n:x":                 "a/bc/",
		"s/a/b/;tx;=\n:x":          "b/2/bc/",
		"s/a/b/;Tx;=\n:x":          "1/b/bc/",
		"s/a/b/;t;s/b/c/;t;=":      "b/cc/",
		":a;s/^.\\{1,3\\}$/&-/;ta": "a---/bc--/",
	})
	x := func(n int) string { return strings.Repeat("x", n) }
	expect(t, api.Options{Quiet: true}, marsh.Inputs(x(100)+"\n"), map[string]string{
		"l": x(69) + "\\/" + x(31) + "$/", "l 70": x(69) + "\\/" + x(31) + "$/", "l 60": x(59) + "\\/" + x(41) + "$/", "l 0": x(100) + "$/", "l 1": x(100) + "$/", "l 2": strings.Repeat("x\\/", 99) + "x$/", "l 1000": x(100) + "$/",
	})
}

// Lines that are not whole: what lacks its LF gets it ahead of what comes next, at each place by itself.
func TestLacking(t *testing.T) {
	expect(t, api.Options{}, marsh.Inputs("a\nb"), map[string]string{
		"p":               "a/a/b/b",
		"$=":              "a/2/b",
		"$i\\\nx":         "a/x/b",
		"$a x":            "a/b/x/",
		"$F":              "a/in1/b",
		"$l":              "a/b$/b",
		"$w o":            "a/b|o: b",
		"w o\nw o":        "a/b|o: a/a/b/b",
		"w o\nw u":        "a/b|o: a/b|u: a/b",
		"w /dev/stdout":   "a/a/b/b",
		"N;P":             "a/a/b",
		"P":               "a/a/b/b",
		"N;W o":           "a/b|o: a/",
		"W o":             "a/b|o: a/b",
		"$!d;h;G":         "b/b",
		"$s/b//":          "a/",
		"$s/b//;p":        "a/a//",
		"$s/b//;$p;$=":    "a//2/",
		"z":               "/",
		"$r none":         "a/b",
		"x":               "/a",
		"$!{h;d};x;G":     "a/b",
		"$c\\\nx":         "a/x/",
		"$s/b/x\\ny/":     "a/x/y",
		"$s/b/x\\ny/;P;D": "a/x/y",
		"$p;$r none":      "a/b/b",
		"$!N;s/\\n//;p":   "ab/ab",
		"n":               "a/b",
		"1q":              "a/",
		"2q":              "a/b",
		"$s/b/c/pw o":     "a/c/c|o: c",
	})
	expect(t, api.Options{}, marsh.Inputs("a", "b", "c\n"), map[string]string{
		"":      "a/b/c/",
		"w o":   "a/b/c/|o: a/b/c/",
		"$!d":   "c/",
		"$d":    "a/b",
		"2d":    "a/c/",
		"N;N;p": "a/b/c/a/b/c/",
		"=":     "1/a/2/b/3/c/",
		"2a x":  "a/b/x/c/",
	})
	expect(t, api.Options{Separate: true}, marsh.Inputs("a", "b\nc"), map[string]string{
		"":    "a/b/c",
		"=":   "1/a/1/b/2/c",
		"$!d": "a/c",
		"w o": "a/b/c|o: a/b/c",
	})
	expect(t, api.Options{InPlace: true}, marsh.Inputs("a", "b\nc", "d\n"), map[string]string{
		"":              "|in1: a|in2: b/c|in3: d/",
		"p":             "|in1: a/a|in2: b/b/c/c|in3: d/d/",
		"w /dev/stdout": "a/b/c/d/|in1: a|in2: b/c|in3: d/",
		"w o":           "|o: a/b/c/d/|in1: a|in2: b/c|in3: d/",
		"1!d;s/d/x/p":   "|in1: a|in2: b/|in3: x/x/",
	})
	twice := api.World{Inputs: []api.Text{{Name: "x", Data: "a"}, {Name: "x", Data: "b"}, {Name: "x", Data: "c\n"}}}
	expect(t, api.Options{InPlace: true}, twice, map[string]string{"": "|x: abc/", "p": "|x: a/ab/bc/c/", "i\\\nn": "|x: n/an/bn/c/"})
}

// 19.1: what is put where, effect by effect: an LF that lacked stands in the next one; nothing is no effect.
func TestEffects(t *testing.T) {
	for _, c := range []struct {
		s    string
		o    api.Options
		want string
	}{
		{"p;w o", api.Options{}, `1 "" "a\n"; 2 "o" "a\n"; 1 "" "a\n"; 1 "" "b"; 2 "o" "b"; 1 "" "\nb"`},
		{"s/.//;p", api.Options{}, `1 "" "\n"; 1 "" "\n"; 1 "" "\n"`},
		{"s/.//", api.Options{}, `1 "" "\n"`},
		{"2!d;z;p;p", api.Options{}, `1 "" "\n"; 1 "" "\n"`},
		{"=", api.Options{InPlace: true}, `3 "in1" "1\n"; 3 "in1" "a\n"; 3 "in1" "2\n"; 3 "in1" "b"`},
		{"r none\nR none\na x\na y", api.Options{Quiet: true}, `1 "" "x\n"; 1 "" "y\n"; 1 "" "x\n"; 1 "" "y\n"`},
		{"$!N;l;P;D", api.Options{}, `1 "" "a\\nb$\n"; 1 "" "a\n"; 1 "" "b$\n"; 1 "" "b"`},
	} {
		m := run(t, c.s, c.o, marsh.Inputs("a\nb"))
		got := marsh.Show(api.Meaning{Effects: m.Effects})
		if _, effects, _ := strings.Cut(got, "peak 0; "); effects != c.want {
			t.Errorf("%q: %s", c.s, effects)
		}
	}
}

// Addresses of all kinds, alone and as ranges.
func TestAddresses(t *testing.T) {
	quiet := api.Options{Quiet: true}
	w := marsh.Inputs("1\n2a\n3\n4b\n5\n6a\n7b\n8\n")
	expect(t, quiet, w, map[string]string{
		"1p": "1/", "8p": "8/", "9p": "", "$p": "8/", "/a/p": "2a/6a/", "/A/p": "", "/A/Ip": "2a/6a/",
		"0~3p": "3/6a/", "2~3p": "2a/5/8/", "3~0p": "3/", "9~2p": "", "7~5p": "7b/", "0~0p": "", "1~1p": "1/2a/3/4b/5/6a/7b/8/",
		"2,4p": "2a/3/4b/", "4,2p": "4b/", "4,4p": "4b/", "7,99p": "7b/8/", "9,1p": "", "2,0p": "2a/",
		"2,+2p": "2a/3/4b/", "2,+0p": "2a/", "7,+9p": "7b/8/",
		"2,~4p": "2a/3/4b/", "4,~4p": "4b/", "5,~4p": "5/6a/7b/8/", "5,~0p": "5/", "7,~1p": "7b/", "7,~99p": "7b/8/",
		"7,$p": "7b/8/", "$,$p": "8/", "$,1p": "8/",
		"/a/,/b/p": "2a/3/4b/6a/7b/", "/b/,/a/p": "4b/5/6a/7b/8/", "/a/,/a/p": "2a/3/4b/5/6a/", "/a/,1p": "2a/6a/", "/a/,5p": "2a/3/4b/5/6a/", "/a/,+1p": "2a/3/6a/7b/", "/a/,~3p": "2a/3/6a/", "/a/,$p": "2a/3/4b/5/6a/7b/8/", "3,/b/p": "3/4b/", "4,/b/p": "4b/5/6a/7b/",
		"0,/1/p": "1/", "0,/a/p": "1/2a/", "1,/1/p": "1/2a/3/4b/5/6a/7b/8/", "0,/x/p": "1/2a/3/4b/5/6a/7b/8/", "0,/a/!p": "3/4b/5/6a/7b/8/",
		"2~3,/b/p": "2a/3/4b/5/6a/7b/8/", "2~3,+1p": "2a/3/5/6a/8/", "/a/,/b/!p": "1/5/8/", "2,4!p": "1/5/6a/7b/8/",
		"2{n;n;n};1,3p":       "1/",
		"2,3{n;n;n;n;n};2,3p": "",
	})
	expect(t, api.Options{}, w, map[string]string{
		"2,4{n;n;n;n}":      "1/2a/3/4b/5/6a/7b/8/",
		"1,3d;5,$d":         "4b/",
		"2,4c\\\nx":         "1/x/5/6a/7b/8/",
		"7,9c\\\nx":         "1/2a/3/4b/5/6a/",
		"7,$c\\\nx":         "1/2a/3/4b/5/6a/x/",
		"2,4!c\\\nx":        "x/2a/3/4b/x/x/x/x/",
		"/a/c\\\nx":         "1/x/3/4b/5/x/7b/8/",
		"4,2c\\\nx":         "1/2a/3/x/5/6a/7b/8/",
		"/a/,/b/c\\\nx":     "1/x/5/x/8/",
		"$!{N;N};1,4c\\\nx": "1/2a/3/4b/5/6a/7b/8/",
	})
}

// A range that is passed over where it should end: it ends at the next look, and that line is not in it.
func TestRangesPassedOver(t *testing.T) {
	expect(t, api.Options{Quiet: true}, marsh.Inputs("1\n2\n3\n4\n5\n6\n"), map[string]string{
		"1,3{p;n;n;n};5,6p":    "1/5/6/",
		"1,2p;1{n;n;n}":        "1/",
		"1,3p;1{n;n;n}":        "1/",
		"1,4p;1{n;n;n}":        "1/",
		"1,5p;1{n;n;n}":        "1/5/",
		"1,+1p;1{n;n;n};5,+0p": "1/5/",
		"3,4!p":                "1/2/5/6/",
	})
}

// Expressions that are Last: that which was looked for last, with its case; none, if none was.
func TestLast(t *testing.T) {
	w := marsh.Inputs("a\nB\nab\n")
	expect(t, api.Options{}, w, map[string]string{
		"//p":                        "a/B/ab/",
		"s//x/":                      "a/B/ab/",
		"/a/s//x/":                   "x/B/xb/",
		"/b/Is//x/":                  "a/x/ax/",
		"/A/I!s//x/":                 "a/B/ab/",
		"s/b/x/I;s//y/":              "a/x/ax/",
		"s/b/x&/I;s//y/":             "a/xy/axy/",
		"/a/{/b/=;};s//x/":           "a/B/3/ax/",
		"/b/p;//d":                   "a/B/ab/",
		"1!s//x/;/a/p":               "a/a/B/xb/",
		"s/\\(a\\)*/<\\1>/;s//-\\2/": "-<a>/-<>B/-<a>b/",
		"2,//p;/a/!p":                "a/B/B/B/ab/ab/",
		"/a/,//d":                    "",
		"//,/a/p":                    "a/B/ab/",
	})
	if m := run(t, "//p;s//x/g", api.Options{}, marsh.Inputs("a\n")); m.Cost != 2 {
		t.Error("nothing is looked for:", m.Cost)
	}
}

// n, N and D.
func TestLines(t *testing.T) {
	expect(t, api.Options{}, marsh.Inputs("1\n2\n3\n4\n5\n"), map[string]string{
		"n;d": "1/3/5/", "$!n;d": "1/3/", "n;n;s/./x/": "1/2/x/4/5/", "N;s/\\n/-/": "1-2/3-4/5/", "N;N;s/\\n/-/g": "1-2-3/4/5/", "$!N;D": "", "$!N;P;D": "1/2/3/4/5/",
		"N;D": "5/", "D": "", "$!N;$!D": "4/5/", "1!G;h;$!d": "5/4/3/2/1/", ":a;$!{N;ba};s/\\n/-/g": "1-2-3-4-5/",
		"a x\nN;D": "x/x/x/x/5/x/", "/1/{N;s/^/x\\n/;a y\nD;}": "y/y/y/y/1/2/3/4/5/",
		"2q": "1/2/", "2Q": "1/", "2{N;q}": "1/2/3/", "n;q": "1/2/", "$q": "1/2/3/4/5/",
	})
	expect(t, api.Options{Quiet: true}, marsh.Inputs("1\n2\n3\n"), map[string]string{"n;p": "2/", "N;p": "1/2/", "$!N;p": "1/2/3/", "N;N;N;p": "", "$n;p": "1/2/"})
}

// t and T: a line that is taken by n and N makes that none has been made; D does not.
func TestMade(t *testing.T) {
	expect(t, api.Options{}, marsh.Inputs("a\nb\n"), map[string]string{
		"s/a/x/;n;tx;s/b/y/\n:x": "x/y/",
		"s/a/x/;N;tx;s/b/y/\n:x": "x/y/",
		"s/a/x/;T;=":             "1/x/b/",
		"s/a/x/;t;=":             "x/2/b/",
		"s/a/x/;Ty;T;=\n:y":      "x/b/",
		"s/q/x/;Ty;=\n:y":        "a/b/",
		"/a/{s/a/x\\ny/;D};t;=":  "y/2/b/",
		"/a/{s/a/x\\ny/;D};T;=":  "1/y/b/",
		"s/a/x/;b;":              "x/b/",
		"s/a/a/;t;=":             "a/2/b/",
	})
}

// r, R, w, W: files as they are at that time.
func TestFiles(t *testing.T) {
	w := marsh.Inputs("1\n2\n3\n4\n")
	w.Others = []api.Text{{Name: "f", Data: "x\ny"}, {Name: "g", Gone: true}, {Name: "o", Data: "old\n"}, {Name: "e"}, {Name: "/dev/stdout", Data: "std\n"}}
	expect(t, api.Options{}, w, map[string]string{
		"1r f":                          "1/x/y2/3/4/",
		"1r g":                          "1/2/3/4/",
		"1r e":                          "1/2/3/4/",
		"1r none":                       "1/2/3/4/",
		"1r o":                          "1/old/2/3/4/",
		"1r /dev/stdout":                "1/std/2/3/4/",
		"R f":                           "1/x/2/y/3/4/",
		"R none":                        "1/2/3/4/",
		"2R f\n3R f":                    "1/2/x/3/y/4/",
		"R f\nR f":                      "1/x/y/2/3/4/",
		"R f\nr f":                      "1/x/x/y2/y/x/y3/x/y4/x/y",
		"1r f\n1a z":                    "1/x/yz/2/3/4/",
		"$d;R e\n3w e\n":                "1/2/3/3/|e: 3/",
		"1r o\n3w o":                    "1/2/3/4/|o: 3/",
		"1w o\n2r o\n3w o\n4r o":        "1/2/1/3/4/1/3/|o: 1/3/",
		"w o\nR o":                      "1/1/2/2/3/3/4/4/|o: 1/2/3/4/",
		"1,2w o\n3,4R o":                "1/2/3/1/4/2/|o: 1/2/",
		"w none\n$r none":               "1/2/3/4/1/2/3/4/|none: 1/2/3/4/",
		"s/1/x/w o\n2r o":               "x/2/x/3/4/|o: x/",
		"$!d\nr f\nr f":                 "4/x/yx/y",
		"w /dev/stdout\n1r /dev/stdout": "1/1/std/2/2/3/3/4/4/",
	})
	w.Inputs = marsh.Inputs("a", "b\nc").Inputs
	expect(t, api.Options{}, w, map[string]string{"w o\nR o": "a/a/b/b/c/c/|o: a/b/c"})
	expect(t, api.Options{Separate: true}, w, map[string]string{"R f": "a/x/b/x/c/y/", "w o\nR o": "a/a/b/a/c/b/|o: a/b/c"})
	expect(t, api.Options{InPlace: true}, w, map[string]string{"R f": "|in1: a/x/|in2: b/x/c/y/", "r f": "|in1: a/x/y|in2: b/x/yc/x/y"})
}

// Inputs one after another: the last line, numbers, names, ranges; such as are gone, and such as have no line.
func TestInputs(t *testing.T) {
	w := api.World{Inputs: []api.Text{{Name: "e"}, {Name: "x", Data: "1\n2\n"}, {Name: "g", Gone: true}, {Name: "e"}, {Name: "y", Data: "3\n4\n"}, {Name: "h", Gone: true}}}
	expect(t, api.Options{}, w, map[string]string{"=;F": "1/x/1/2/x/2/3/y/3/4/y/4/", "$!d": "4/", "2,3d": "1/4/", "N;s/\\n/-/": "1-2/3-4/", "0,/2/d": "3/4/", "/2/,/x/d": "1/", "2,$d": "1/", "1~3d": "2/3/", "n;d": "1/3/"})
	expect(t, api.Options{Separate: true}, w, map[string]string{"=;F": "1/x/1/2/x/2/1/y/3/2/y/4/", "$!d": "2/4/", "2,3d": "1/3/", "N;N;s/\\n/-/": "1/2/3/4/", "0,/2/d": "", "/2/,/x/d": "1/3/4/", "2,$d": "1/3/", "$n;s/./x/": "x/2/x/4/", "0~2d": "1/3/", "H;$!d;x": "/1/2/2/3/4/", "1{s/1/x/;n};t;=": "x/2/2/3/2/4/"})
	expect(t, api.Options{InPlace: true}, w, map[string]string{"=;F": "|x: 1/x/1/2/x/2/|y: 1/y/3/2/y/4/", "$!d": "|x: 2/|y: 4/", "a z": "|x: 1/z/2/z/|y: 3/z/4/z/", "1!Q": "|x: 1/", "d": ""})
	for _, c := range []struct {
		s    string
		w    api.World
		stop api.StopKind
		code int
	}{
		{"", w, api.StopNone, 2}, {"d", w, api.StopNone, 2}, {"q", w, api.StopQuit, 0}, {"$q", w, api.StopQuit, 0}, {"q9", w, api.StopQuit, 9}, {"Q255", w, api.StopQuit, 255}, {"Q", w, api.StopQuit, 0}, {"e", w, api.StopExec, 3}, {"s/1/x/e", w, api.StopExec, 3}, {"s/x/y/e", w, api.StopNone, 2},
		{"", api.World{}, api.StopNone, 0}, {"", marsh.Inputs("a"), api.StopNone, 0}, {"", api.World{Others: w.Inputs[:1]}, api.StopNone, 0}, {"", api.World{Others: w.Inputs[2:3]}, api.StopNone, 0}, {"p", api.World{Inputs: w.Inputs[2:3]}, api.StopNone, 2}, {"q", api.World{Inputs: w.Inputs[2:3]}, api.StopNone, 2},
	} {
		if m := run(t, c.s, api.Options{}, c.w); m.Stop != c.stop || m.Code != c.code {
			t.Errorf("%q: %s", c.s, marsh.Show(m))
		}
	}
}

// s with e: P is replaced, and nothing else is done.
func TestExec(t *testing.T) {
	expect(t, api.Options{}, marsh.Inputs("1\n2\n"), map[string]string{"2s/./x/epw o": "1/", "2e ls": "1/", "s/x/y/epw o": "1/2/", "a x\n2e": "1/x/"})
}

// 19.1: what is counted: a step for each look at a step, taken or not; the looks for expressions; bytes at the peak.
func TestCounts(t *testing.T) {
	for _, c := range []struct {
		s                 string
		in                string
		steps, cost, peak int
	}{
		{"p", "a\nbb\n", 2, 2, 2},
		{"5p", "a\nbb\n", 2, 2, 2},
		{"5{p;p;p}", "a\nbb\n", 2, 2, 2},
		{"/b/p", "a\n", 1, 3, 1},
		{"/b/!p", "a\n", 1, 3, 1},
		{"//p", "a\n", 1, 1, 1},
		{"/a/,/b/p", "a\na\nb\n", 3, 3 + 2 + 2 + 2, 1},
		{"s/a/b/g", "aa\n", 1, 1 + 2 + 2 + 1, 2},
		{"s/a/b/", "aa\n", 1, 1 + 2, 2},
		{"s/a/bbb/", "aa\n", 1, 1 + 2, 4},
		{"s/a//", "aa\n", 1, 1 + 2, 2},
		{"s/b/ccccc/", "aa\n", 1, 1 + 3, 2},
		{"G", "a\n", 1, 1, 2},
		{"H", "a\n", 1, 1, 3},
		{"h;z", "abc\n", 2, 2, 6},
		{"h;d", "abc\nd\n", 4, 4, 6},
		{"x;G", "abc\n", 2, 2, 7},
		{"a xy\n", "abc\n", 1, 1, 6},
		{"r xy\nR z", "abc\n", 2, 2, 6},
		{"a xy\nn", "abc\ndefg\n", 2, 2, 6},
		{"N", "abc\ndefg\n", 1, 1, 8},
		{"N;P;D", "ab\ncd\n", 4, 4, 5},
		{"i\\\nxyz", "a\n", 1, 1, 1},
		{"y/a/b/", "abc\n", 1, 1, 3},
		{"", "", 0, 0, 0},
		{"p", "", 0, 0, 0},
	} {
		if m := run(t, c.s, api.Options{}, marsh.Inputs(c.in)); m.Steps != c.steps || m.Cost != c.cost || m.Peak != c.peak {
			t.Errorf("%q: %s", c.s, marsh.Show(m))
		}
	}
}
