package front_test

import (
	"runtime"
	"slices"
	"strconv"
	"strings"
	"testing"
	"time"

	"paddock/api"
	"paddock/debug"
	"paddock/front"
	"paddock/lines"
	"paddock/marsh"
	"paddock/rushes"
	"paddock/spec"
)

const (
	allowAll = "read \"/\"\nwrite \"/\"\nfuel 100\nmemory 100\noutput 100\neach 100\n"
	twoLines = "text \"/f\" \"a\\nb\\n\"\n"
	oneTask  = "task \"t\"\nscript \"p\"\nname \"f\"\nread \"/\"\nfuel 9\nmemory 9\noutput 9\ntext \"/f\" \"a\\n\"\n"
)

// usual are files that all commands with so many of a kind take.
func usual(command string) []string {
	switch command {
	case "sed", "files", "log", "diff":
		return []string{allowAll, twoLines, "i\n"}
	case "format", "tidy", "reach":
		return []string{"p"}
	case "policy":
		return []string{allowAll}
	case "tree", "find":
		return []string{twoLines}
	case "confined":
		return []string{allowAll, "read \"/f\" 0\n"}
	case "debug":
		return []string{"p", "a\n"}
	case "farm":
		return []string{oneTask}
	}
	return nil
}

// everyCommand are all of them.
const everyCommand = "sed files log diff format tidy reach policy tree find confined debug farm"

// does holds what a call answers.
func does(t *testing.T, args, files []string, out, line string, code int) {
	t.Helper()
	gotOut, gotLine, gotCode := front.Run(args, files)
	if gotOut != out || gotLine != line || gotCode != code {
		t.Errorf("%.200q of %.300q: %.400q, %q, %d\nnot %.400q, %q, %d", args, files, gotOut, gotLine, gotCode, out, line, code)
	}
}

// words are arguments that stand between blanks; @ is an LF.
func words(s string) []string {
	l := strings.Fields(s)
	for i := range l {
		l[i] = strings.ReplaceAll(l[i], "@", "\n")
	}
	return l
}

// The chapter's examples.
func TestExamples(t *testing.T) {
	files := []string{allowAll, twoLines, ""}
	does(t, words("sed s/a/x/ f"), files, "x\nb\n", "", 0)
	does(t, words("files -i s/a/x/ f"), files, "text \"/f\" \"x\\nb\\n\"\n", "", 0)
	does(t, words("log p f"), files, "lstat \"/f\" 0\nread \"/f\" 0\n", "", 0)
	does(t, nil, nil, "", "usage argument 0\n", 64)
	does(t, words("sed"), files, "", "usage argument 1\n", 64)
	does(t, words("format -x"), words("p"), "", "usage argument 1\n", 64)
	does(t, words("tree"), nil, "", "usage files\n", 64)
	does(t, words("tree"), words("x"), "", "file 0 line 1 rule 1\n", 64)
	does(t, words("sed -f z"), files, "", "source \"z\"\n", 64)
	does(t, words("format"), words("k"), "", "script byte 0 rule 1\n", 1)
	does(t, words("reach"), words("q;p"), "0 \"q\" live\n1 \"p\" dead\nreads\nwrites\nquits\n", "", 0)
	does(t, []string{"sed", "e ls", "f"}, files, "", "denied exec \"ls\" command\n", 3)
	does(t, words("policy"), []string{"fuel 1"}, "fuel 1\nmemory 0\noutput 0\neach 0\n", "", 0)
	does(t, words("farm 2"), []string{""}, "", "", 0)
	does(t, words("find /*"), []string{twoLines}, "\"/f\"\n", "", 0)
	does(t, words("find /["), []string{twoLines}, "", "pattern byte 2\n", 64)
	does(t, words("diff -i s/a/x/ f"), files, "--- \"/f\"\n+++ \"/f\"\n@@ -1,2 +1,2 @@\n-a\n+x\n b\n", "", 0)
	p := rushes.Read(t, "p", false)
	first, _ := spec.At(p, api.Options{}, marsh.Inputs("a\n"), 0)
	last, _ := spec.At(p, api.Options{}, marsh.Inputs("a\n"), 1)
	does(t, words("debug 1"), []string{"p", "a\n"}, debug.Say(p, first)+"--\n"+debug.Say(p, last), "", 0)
}

// P30.1: the first argument that may not be so, or the number of all, if one is missing; ahead of all that is wrong with the files.
func TestArguments(t *testing.T) {
	for s, at := range map[string]int{
		"": 0, "x": 0, "Sed": 0, "sed@": 0, "sedd p": 0, "-n": 0, "p f": 0, "help": 0,
		"sed": 1, "sed -n": 2, "sed --": 2, "sed -e": 2, "sed -z p": 1, "sed -n -z p": 2, "sed -n -i/x p": 2, "files": 1, "files -q p": 1, "log -ne": 2, "log --quiet=1 p": 1, "diff -n --file p": 2, "diff -e p -f": 4, "sed -n -E -s": 4,
		"format x": 1, "format -e": 1, "format -x": 1, "format -E -E": 2, "format -E x": 2, "format -EE": 1, "format -r": 1, "format --": 1, "format -E -E -E": 2, "tidy p": 1, "tidy -E p": 2, "reach 1": 1, "reach -E -x": 2,
		"policy x": 1, "policy -E": 1, "policy x y": 1, "tree /": 1, "tree -E": 1, "confined x": 1, "confined -E": 1,
		"find": 1, "find /* x": 2, "find x y z": 2, "find [ [": 2,
		"debug": 1, "debug -E": 2, "debug x": 1, "debug -E x": 2, "debug -E -E": 2, "debug -x 1": 1, "debug 1 -E": 2, "debug 1 1": 2, "debug -E 1 1": 3, "debug -E 1 -E": 3, "debug 1001": 1, "debug -E 1001": 2, "debug -1": 1, "debug 01": 1, "debug 00": 1, "debug +1": 1, "debug 1.0": 1, "debug 0x1": 1, "debug 1_0": 1, "debug 1000000000": 1, "debug 0000000001": 1, "debug 99999999999999999999": 1, "debug 18446744073709551617": 1, "debug -0": 1, "debug 1@": 1, "debug \u0661": 1,
		"farm": 1, "farm 0": 1, "farm 65": 1, "farm x": 1, "farm -1": 1, "farm 01": 1, "farm 1 1": 2, "farm -E 1": 1, "farm -E": 1, "farm 1000000000": 1, "farm 18446744073709551617": 1, "farm +2": 1,
	} {
		for _, files := range [][]string{nil, {}, {"x"}, {"p", "x"}, {"x", "x", "x"}, {allowAll, twoLines, ""}, {"", "", "", ""}} {
			does(t, words(s), files, "", "usage argument "+strconv.Itoa(at)+"\n", 64)
		}
	}
	for _, l := range [][]string{{""}, {"", "p"}, {"sed "}, {" sed", "p"}, {"format\x00"}} {
		does(t, l, nil, "", "usage argument 0\n", 64)
	}
	for _, l := range [][]string{{"debug", ""}, {"farm", ""}, {"debug", " 1"}, {"debug", "1 "}, {"format", ""}, {"format", "-E "}, {"policy", ""}, {"farm", "1\n"}} {
		does(t, l, usual(l[0]), "", "usage argument 1\n", 64)
	}
	// as many arguments as a command line of sed may have, and one more
	many := append([]string{"sed"}, slices.Repeat([]string{"-n"}, api.MaxArgs)...)
	many[len(many)-1] = "p"
	does(t, many, []string{allowAll, "", "a\n"}, "a\n", "", 0)
	does(t, append(many, "-"), []string{allowAll, "", "a\n"}, "", "usage argument 1\n", 64)
}

// P30.1: arguments that may be so.
func TestTaken(t *testing.T) {
	for _, s := range []string{"sed p", "sed -n p f", "sed -e p", "sed -- p", "files p f", "log -E p f", "diff -i p f", "format", "format -E", "tidy", "tidy -E", "reach", "reach -E", "policy", "tree", "find /", "find /**", "find /f", "confined", "debug 0", "debug 1", "debug 1000", "debug -E 0", "debug -E 1000", "farm 1", "farm 64"} {
		l := words(s)
		if _, line, code := front.Run(l, usual(l[0])); line != "" && s != "find /" || code != 0 && s != "find /" {
			t.Errorf("%s: %q, %d", s, line, code)
		}
	}
}

// right are arguments that may be so, of each command.
func right(command string) []string {
	switch command {
	case "sed", "files", "log", "diff":
		return []string{command, "p", "f"}
	case "find":
		return []string{command, "/*"}
	case "debug", "farm":
		return []string{command, "1"}
	}
	return []string{command}
}

// P30.1: as many files as a command has; whatever stands in them.
func TestFiles(t *testing.T) {
	counts := map[string]int{"sed": 3, "files": 3, "log": 3, "diff": 3, "confined": 2, "debug": 2}
	for _, command := range strings.Fields(everyCommand) {
		want := max(counts[command], 1)
		for n := range 6 {
			for _, text := range []string{"", "x", allowAll} {
				_, line, code := front.Run(right(command), slices.Repeat([]string{text}, n))
				if (line == "usage files\n") != (n != want) || n != want && code != 64 {
					t.Errorf("%s with %d files: %q, %d", command, n, line, code)
				}
			}
		}
	}
	does(t, words("find /["), []string{twoLines, twoLines}, "", "usage files\n", 64)
	does(t, words("sed -f z"), []string{allowAll, twoLines}, "", "usage files\n", 64)
	does(t, words("format"), []string{"k", "k"}, "", "usage files\n", 64)
}

// P30.2: the first file that is at fault, its number, the line, the rule; ahead of a pattern's fault, of a source that is none, of the script's flaw.
func TestFileFaults(t *testing.T) {
	for _, command := range []string{"sed", "files", "log", "diff"} {
		for _, l := range [][]string{{command, "p"}, {command, "k"}, {command, "-f", "z"}} {
			does(t, l, []string{"fuel 1\nfuel 01", "x", "x"}, "", "file 0 line 2 rule 2\n", 64)
			does(t, l, []string{"fuel 1\n\nfuel 2", twoLines, "x"}, "", "file 0 line 3 rule 4\n", 64)
			does(t, l, []string{"", "dir \"/a\"\ndir \"/a\"", "x"}, "", "file 1 line 2 rule 4\n", 64)
			does(t, l, []string{allowAll, twoLines + "\n#\nlink \"/l\" \"\"", "x"}, "", "file 1 line 4 rule 6\n", 64)
		}
	}
	does(t, words("policy"), []string{"exec 1"}, "", "file 0 line 1 rule 1\n", 64)
	does(t, words("policy"), []string{"#\n\nread \"a\""}, "", "file 0 line 3 rule 5\n", 64)
	does(t, words("tree"), []string{"text \"/a/b\" \"\""}, "", "file 0 line 1 rule 5\n", 64)
	for _, pattern := range []string{"/*", "/[", "", "x"} {
		does(t, []string{"find", pattern}, []string{twoLines + "dir /a"}, "", "file 0 line 2 rule 2\n", 64)
	}
	does(t, words("confined"), []string{"x", "x"}, "", "file 0 line 1 rule 1\n", 64)
	does(t, words("confined"), []string{allowAll, "read \"/a\" 0\nread \"/a\" 00\n"}, "", "file 1 line 2 rule 5\n", 64)
	does(t, words("confined"), []string{allowAll, "read \"/a\" 0"}, "", "file 1 line 1 rule 1\n", 64)
	does(t, words("farm 1"), []string{oneTask + "task \"t\""}, "", "file 0 line 9 rule 3\n", 64)
	does(t, words("farm 1"), []string{"\nscript \"p\""}, "", "file 0 line 2 rule 3\n", 64)
}

// P30.3: pieces of a script that are files come from the tree: texts, where their names lead from the root.
func TestSources(t *testing.T) {
	tree := "dir \"/d\"\ntext \"/d/s\" \"s/a/x/\"\nlink \"/d/t\" \"s\"\ntext \"/f\" \"a\\nb\\n\"\nlink \"/l\" \"d\"\ntext \"/n\" \"=\\n\"\ntext \"/v\" \"\"\n"
	files := []string{allowAll, tree, ""}
	for _, name := range []string{"d/s", "/d/s", "d//./s", "../d/s", "x/../d/s", "d/s/", "d/s/.", "d/s/x/.."} {
		does(t, []string{"sed", "-f", name, "f"}, files, "x\nb\n", "", 0)
		does(t, []string{"sed", "-n", "-e", "p", "-f", name, "-e", "2p", "f"}, files, "a\nb\nb\n", "", 0)
	}
	does(t, words("sed -f n -f d/s f"), files, "1\nx\n2\nb\n", "", 0)
	does(t, words("sed -f v f"), files, "a\nb\n", "", 0)
	long := strings.Repeat("x/../", 204)
	does(t, []string{"sed", "-f", long + "v", "f"}, files, "a\nb\n", "", 0)
	for _, name := range []string{"z", "", "d", "/", ".", "d/t", "l", "l/s", "d/z", "f/x", "d/s/x", "v\x00", "\n", "-", "/dev/stdin", long + "/////", "d/" + strings.Repeat("n", api.MaxName+1)} {
		for _, command := range []string{"sed", "files", "log", "diff"} {
			does(t, []string{command, "-f", "d/s", "-f", name, "-f", "other", "f"}, files, "", "source "+lines.Quote(name)+"\n", 64)
		}
	}
	does(t, words("sed -f z -e k"), files, "", "source \"z\"\n", 64)
	// a source need not be one that the policy lets read
	does(t, words("sed -f d/s"), []string{"fuel 9\nmemory 9\noutput 9", tree, "a\n"}, "x\n", "", 0)
	// a flaw is told in the whole script
	does(t, words("sed -f n -e k f"), files, "", "script byte 3 rule 1\n", 1)
}

// P30.3: what the four commands say of one job, whatever ends it.
func TestJobs(t *testing.T) {
	tree := "dir \"/d\"\ntext \"/d/f\" \"a\\nb\\n\"\ntext \"/s\" \"secret\"\n"
	read := "lstat \"/d/f\" 0\nread \"/d/f\" 0\n"
	for _, c := range []struct {
		args, policy                      string
		out, files, log, diff, line, code string
	}{
		{args: "s/a/x/ d/f", out: "x\nb\n", log: read, code: "0"},
		{args: "w@d/o d/f", line: "script byte 1 rule 13", code: "1"},
		{args: "wd/o d/f", out: "a\nb\n", files: "dir \"/d\"\ntext \"/d/f\" \"a\\nb\\n\"\ntext \"/d/o\" \"a\\nb\\n\"\ntext \"/s\" \"secret\"\n",
			log:  "lstat \"/d/o\" 31\ncreate \"/d/o\" 0\n" + read + "lstat \"/d/o\" 0\nappend \"/d/o\" 0\nlstat \"/d/o\" 0\nappend \"/d/o\" 0\n",
			diff: "--- \"/d/o\"\n+++ \"/d/o\"\n@@ -0,0 +1,2 @@\n+a\n+b\n", code: "0"},
		{args: "-i 1d d/f", files: "dir \"/d\"\ntext \"/d/f\" \"b\\n\"\ntext \"/s\" \"secret\"\n",
			log:  read + "lstat \"/d/f.paddock~\" 31\ncreate \"/d/f.paddock~\" 0\nlstat \"/d/f.paddock~\" 0\nappend \"/d/f.paddock~\" 0\nlstat \"/d/f.paddock~\" 0\nlstat \"/d/f\" 0\nrename \"/d/f.paddock~\" \"/d/f\" 0\n",
			diff: "--- \"/d/f\"\n+++ \"/d/f\"\n@@ -1,2 +1 @@\n-a\n b\n", code: "0"},
		{args: "q7 d/f", out: "a\n", log: read, code: "7"},
		{args: "q64 d/f", out: "a\n", log: read, code: "64"},
		{args: "p d/z", log: "lstat \"/d/z\" 31\nread \"/d/z\" 31\n", code: "2"},
		{args: "p s", log: "deny prefix read \"/s\" \"s\"\n", line: "denied read \"/s\" prefix", code: "3"},
		{args: "r../s d/f", out: "a\n", log: read + "deny prefix read \"/s\" \"/s\"\n", line: "denied read \"/s\" prefix", code: "3"},
		{args: "2e d/f", out: "a\n", log: read + "deny exec exec - \"\"\n", line: "denied exec \"\" command", code: "3"},
		{args: "p d", log: "read \"/d\" 40\n", line: "failed read \"/d\" code 40", code: "5"},
		{args: ":a;ba d/f", log: read, line: "exhausted fuel", code: "4"},
		{args: "k d/f", line: "script byte 0 rule 1", code: "1"},
		{args: "p d/f", policy: "read \"/s/x\"", log: "deny prefix read \"/d/f\" \"d/f\"\n", line: "denied read \"/d/f\" prefix", code: "3"},
		{args: "p -", policy: "fuel 9\nmemory 9\noutput 9", out: "i\ni\n", code: "0"},
		{args: "-n p", policy: "fuel 9\nmemory 9\noutput 9", out: "i\n", code: "0"},
	} {
		if c.policy == "" {
			c.policy = strings.ReplaceAll(allowAll, "\"/\"", "\"/d\"")
		}
		if c.line != "" {
			c.line += "\n"
		}
		wrong := strings.HasPrefix(c.line, "script")
		if c.files == "" && !wrong {
			c.files = tree
		}
		code, _ := strconv.Atoi(c.code)
		for command, out := range map[string]string{"sed": c.out, "files": c.files, "log": c.log, "diff": c.diff} {
			does(t, append([]string{command}, words(c.args)...), []string{c.policy, tree, "i\n"}, out, c.line, code)
		}
	}
}

// P30.3: jobs that are not begun: the line alone.
func TestNotBegun(t *testing.T) {
	link := "dir \"/d\"\nlink \"/l\" \"/d\"\n"
	long := "#" + strings.Repeat("x", api.MaxScript)
	names := append([]string{"p"}, slices.Repeat([]string{"-"}, api.MaxFiles+1)...)
	for _, command := range []string{"sed", "files", "log", "diff"} {
		does(t, []string{command, "p"}, []string{"read \"/l/x\"", link, "i\n"}, "", "job code 60\n", 1)
		does(t, []string{command, long}, []string{allowAll, link, "i\n"}, "", "job code 4\n", 1)
		does(t, append([]string{command}, names...), []string{allowAll, link, "i\n"}, "", "job code 3\n", 1)
		if _, line, code := front.Run(append([]string{command}, names[:api.MaxFiles+1]...), []string{allowAll, link, ""}); line != "" || code != 0 {
			t.Errorf("%s of MaxFiles names: %q, %d", command, line, code)
		}
		does(t, []string{command, long[:api.MaxScript]}, []string{allowAll, "", ""}, "", "", 0)
	}
}

// P30.3: diff tells of all texts that were changed, in order of their paths, with 3 lines around; of one that has too many lines: an error, and nothing else.
func TestDiff(t *testing.T) {
	tree := "text \"/a\" \"1\\n2\\n3\\n4\\n5\\n6\\n7\\n8\\n9\"\ndir \"/d\"\ntext \"/d/b\" \"x\"\ntext \"/e\" \"y\\n\"\n"
	files := []string{strings.ReplaceAll(allowAll, "100", "1000"), tree, ""}
	does(t, words("diff -i~ s/5/V/ a d/b"), files, "--- \"/a\"\n+++ \"/a\"\n@@ -2,7 +2,7 @@\n 2\n 3\n 4\n-5\n+V\n 6\n 7\n 8\n"+
		"--- \"/a~\"\n+++ \"/a~\"\n@@ -0,0 +1,9 @@\n+1\n+2\n+3\n+4\n+5\n+6\n+7\n+8\n+9\n\\ No newline at end of file\n"+
		"--- \"/d/b~\"\n+++ \"/d/b~\"\n@@ -0,0 +1 @@\n+x\n\\ No newline at end of file\n", "", 0)
	does(t, words("diff -i d d/b a e"), files, "--- \"/a\"\n+++ \"/a\"\n@@ -1,9 +0,0 @@\n-1\n-2\n-3\n-4\n-5\n-6\n-7\n-8\n-9\n\\ No newline at end of file\n"+
		"--- \"/d/b\"\n+++ \"/d/b\"\n@@ -1 +0,0 @@\n-x\n\\ No newline at end of file\n--- \"/e\"\n+++ \"/e\"\n@@ -1 +0,0 @@\n-y\n", "", 0)
	// a text that is made, and has nothing; one whose run is stopped
	does(t, words("diff 99we/../z a"), files, "", "", 0)
	does(t, words("diff -n wn@2r/ a"), files, "--- \"/n\"\n+++ \"/n\"\n@@ -0,0 +1,2 @@\n+1\n+2\n", "denied read \"/\" path\n", 3)
	does(t, words("diff -i 5q a"), files, "--- \"/a\"\n+++ \"/a\"\n@@ -3,7 +3,3 @@\n 3\n 4\n 5\n-6\n-7\n-8\n-9\n\\ No newline at end of file\n", "", 0)

	for n, line := range map[int]string{api.MaxLines: "", api.MaxLines + 1: "error 3\n"} {
		policy := "read \"/\"\nwrite \"/\"\nfuel 100000\nmemory 100\neach 100000\n"
		text := "text \"/a\" \"q\"\ntext \"/f\" " + lines.Quote(strings.Repeat("x\n", n)) + "\n"
		out, got, code := front.Run([]string{"diff", "-i", "1s/./y/", "a", "f"}, []string{policy, text, ""})
		if got != line || (code == 1) != (line != "") || (out == "") != (line != "") {
			t.Errorf("diff of %d lines: %.100q, %q, %d", n, out, got, code)
		}
		for _, command := range []string{"sed", "files", "log"} {
			if _, got, code := front.Run([]string{command, "-i", "1s/./y/", "a", "f"}, []string{policy, text, ""}); got != "" || code != 0 {
				t.Errorf("%s of %d lines: %q, %d", command, n, got, code)
			}
		}
	}
	// what is too much is told, and not why the run ended
	many := "text \"/a\" \"\"\ntext \"/f\" " + lines.Quote(strings.Repeat("x\n", api.MaxLines+1)) + "\n"
	does(t, words("diff -n wo@$r/ f"), []string{"read \"/\"\nwrite \"/\"\nfuel 100000\nmemory 100\neach 100000\n", many, ""}, "", "error 3\n", 1)
}

// P30.4: format and tidy.
func TestScripts(t *testing.T) {
	for _, c := range []struct{ args, script, out, line string }{
		{"format", "1,3 p;# x\n/a/ ! { s|/|x|g ; }", "1,3p\n/a/!{\ns/\\//x/g\n}\n", ""},
		{"format", "#n", "#n\n", ""}, {"format", "", "", ""}, {"format", "s/(a)/\\1/", "", "script byte 6 rule 16\n"}, {"format -E", "s/(a)/\\1/", "s/(a)/\\1/\n", ""}, {"format", "p\np x", "", "script byte 4 rule 6\n"},
		{"tidy", "1{p;p\n};b e\nd;:e", "1{\np\np\n}\n", ""}, {"tidy", "x;x;p", "p\n", ""}, {"tidy", "b", "", ""}, {"tidy", "#n\n{p\n}", "#n\np\n", ""}, {"tidy", "/a/{\n}", "/a/{\n}\n", ""}, {"tidy", "s/(a)/\\1/", "", "script byte 6 rule 16\n"}, {"tidy -E", "s/(a)/\\1/;b\np", "s/(a)/\\1/\n", ""}, {"tidy", "{p", "", "script byte 0 rule 8\n"},
		{"reach", "", "reads\nwrites\n", ""},
		{"reach", "r a b\nR c\"\nr a b\nw o\nW u\nw o\ns/a/b/w v\ns/a/b/", "0 \"r\" live\n1 \"R\" live\n2 \"r\" live\n3 \"w\" live\n4 \"W\" live\n5 \"w\" live\n6 \"s\" live\n7 \"s\" live\nreads \"a b\" \"c\\\"\"\nwrites \"o\" \"u\" \"v\"\n", ""},
		{"reach", "e\nb\nw x\nr y", "0 \"e\" live\n1 \"b\" live\n2 \"w\" dead\n3 \"r\" dead\nreads\nwrites\nexec\n", ""},
		{"reach", ":a;s/a/b/e;ta", "0 \"s\" live\n1 \"t\" live\nreads\nwrites\nexec\nagain\n", ""},
		{"reach", ":a;1{=;q\n};ba", "0 \"{\" live\n1 \"=\" live\n2 \"q\" live\n3 \"b\" live\nreads\nwrites\nquits\nagain\n", ""},
		{"reach", "1e ls\n2Q", "0 \"e\" live\n1 \"Q\" live\nreads\nwrites\nexec\nquits\n", ""},
		{"reach -E", "s/(a)/\\1/", "0 \"s\" live\nreads\nwrites\n", ""}, {"reach", "s/(a)/\\1/", "", "script byte 6 rule 16\n"}, {"reach", "b x", "", "script byte 0 rule 11\n"},
	} {
		code := 0
		if c.line != "" {
			code = 1
		}
		does(t, words(c.args), []string{c.script}, c.out, c.line, code)
	}
	for _, s := range []string{"format", "tidy", "reach", "debug 1"} {
		l := words(s)
		files := usual(l[0])
		files[0] = "#" + strings.Repeat("x", api.MaxScript-1)
		if _, line, code := front.Run(l, files); line != "" || code != 0 {
			t.Errorf("%s of MaxScript bytes: %q, %d", s, line, code)
		}
		files[0] += "x"
		does(t, l, files, "", "error 4\n", 1)
	}
	// what can not be written: where no byte may part the pieces, and where it would be too long
	odd := "sz"
	for b := range 256 {
		if c := string([]byte{byte(b)}); !strings.Contains("\n\\&.[*$+?(){}|^0123456789abcdefghijklmnopqrstuvwxyzABCDEFGHIJKLMNOPQRSTUVWXYZ", c) {
			odd += "\\" + c
		}
	}
	long := "s,," + strings.Repeat("/", api.MaxScript/2) + ","
	for script, line := range map[string]string{odd + "zz": "error 81\n", long: "error 4\n"} {
		for _, command := range []string{"format", "tidy"} {
			does(t, []string{command}, []string{script}, "", line, 1)
			does(t, []string{command, "-E"}, []string{"p\n" + script}, "", line, 1)
		}
		does(t, words("reach"), []string{script}, "0 \"s\" live\nreads\nwrites\n", "", 0)
		does(t, words("tidy"), []string{"b\n" + script}, "", "", 0)
	}
}

// P30.4: policies, trees, what is found in them.
func TestTexts(t *testing.T) {
	does(t, words("policy"), []string{"#\nread \"/a/b\"\nread \"/a/./\"\nwrite \"/\"\neach 4\nfuel 3"}, "read \"/a\"\nwrite \"/\"\nfuel 3\nmemory 0\noutput 0\neach 4\n", "", 0)
	does(t, words("policy"), []string{""}, "fuel 0\nmemory 0\noutput 0\neach 0\n", "", 0)
	does(t, words("tree"), []string{"#\n\ndir \"/a\"\nlink \"/a/\\q\" \"x\""}, "", "file 0 line 4 rule 2\n", 64)
	does(t, words("tree"), []string{"#\n\ndir \"/a\"\nlink \"/a/\\n\" \"x\""}, "dir \"/a\"\nlink \"/a/\\n\" \"x\"\n", "", 0)
	does(t, words("tree"), []string{""}, "", "", 0)
	tree := []string{"dir \"/a\"\ntext \"/a/b\" \"\"\nlink \"/a/c\\\"\" \"x\"\ntext \"/b\" \"\"\n"}
	for pattern, out := range map[string]string{
		"/*": "\"/a\"\n\"/b\"\n", "/**": "\"/a\"\n\"/a/b\"\n\"/a/c\\\"\"\n\"/b\"\n", "/**/b": "\"/a/b\"\n\"/b\"\n", "/a/?": "\"/a/b\"\n", "/z": "", "/a/*\"": "\"/a/c\\\"\"\n",
	} {
		does(t, []string{"find", pattern}, tree, out, "", 0)
	}
	for pattern, at := range map[string]int{"": 0, "a": 0, "/": 1, "/a//b": 3, "/a/": 3, "/[a": 3, "/[b-a]": 4, "/a\\": 3, "-E": 0, "/a\x00/": 4} {
		does(t, []string{"find", pattern}, tree, "", "pattern byte "+strconv.Itoa(at)+"\n", 64)
		does(t, []string{"find", pattern}, []string{""}, "", "pattern byte "+strconv.Itoa(at)+"\n", 64)
	}
	// paths that are longer than those of scripts may be
	name := strings.Repeat("n", api.MaxName)
	deep, out := "", ""
	var folders strings.Builder
	for range 10 {
		deep += "/" + name
		folders.WriteString("dir \"" + deep + "\"\n")
		out += "\"" + deep + "\"\n"
	}
	does(t, words("find /**"), []string{folders.String()}, out, "", 0)
	does(t, words("tree"), []string{folders.String()}, folders.String(), "", 0)
}

// P30.4: whether a log's calls lie where they may, and which one is the first that doesn't.
func TestConfined(t *testing.T) {
	policy := "read \"/r\"\nwrite \"/w\""
	for log, out := range map[string]string{
		"":                  "confined\n",
		"read \"/r/a\" 0\n": "confined\n", "lstat \"/w\" 31\ncreate \"/w\" 0\nappend \"/w/x\" 42\nrename \"/w/a\" \"/w/b\" 0\n": "confined\n",
		"read \"/w\" 0\n": "call 0\n", "create \"/r\" 0\n": "call 0\n", "lstat \"/x\" 0\n": "call 0\n", "rename \"/w\" \"/r\" 0\n": "call 0\n",
		"read \"/r\" 0\nread \"/r\" 0\nread \"/ra\" 0\nread \"/x\" 0\n":                                        "call 2\n",
		"deny prefix read \"/x\" \"x\"\n":                                                                      "confined\n",
		"read \"/r\" 0\ndeny prefix read \"/x\" \"x\"\ndeny exec exec - \"ls\"\nread \"/r\" 0\nread \"/\" 0\n": "call 2\n",
	} {
		does(t, words("confined"), []string{policy, log}, out, "", 0)
	}
	does(t, words("confined"), []string{"", "read \"/r\" 0\n"}, "call 0\n", "", 0)
	does(t, words("confined"), []string{"read \"/\"", "read \"/r\" 0\n"}, "confined\n", "", 0)
}

// P30.4: a farm's report.
func TestFarm(t *testing.T) {
	tasks := oneTask + "task \"u\"\nscript \"k\"\ntask \"a \\\" b\"\nscript \"p\"\nname \"s\"\ntask \"v\"\nscript \"q9\"\ninput \"x\"\nfuel 1\nmemory 1\noutput 1\ntask \"w\"\nscript \"p\"\nname \"f\"\nread \"/\"\nfuel 9\nmemory 9\noutput 9\ntext \"/f\" \"a\\n\"\nfault 1\n"
	want := "\"t\" code 0 out 4 steps 1 \"\"\n\"u\" code 1 out 0 steps 0 \"script byte 0 rule 1\"\n\"a \\\" b\" code 3 out 0 steps 0 \"denied read \\\"/s\\\" prefix\"\n\"v\" code 9 out 1 steps 1 \"\"\n\"w\" code 5 out 0 steps 0 \"failed read \\\"/f\\\" code 42\"\n"
	for _, n := range []string{"1", "2", "5", "64"} {
		does(t, []string{"farm", n}, []string{tasks}, want, "", 0)
	}
}

// P30.4: the moments of a run, up to the count, or its end.
func TestDebug(t *testing.T) {
	for _, c := range []struct {
		script, input string
		extended      bool
	}{{"p;=", "a\nb", false}, {"", "a\n", false}, {"p", "", false}, {"#n\n:a;s/a/b/;ta;a x\nx", "aa\nb\n", false}, {"s/(a)/\\1/;q3", "a\nb\n", true}, {":a;ba", "a\n", false}, {"e ls", "a", false}, {"F;N;D", "a\nb\nc", false}} {
		p := rushes.Read(t, c.script, c.extended)
		w := api.World{Inputs: []api.Text{{Name: "-", Data: c.input}}}
		for _, count := range []int{0, 1, 2, 7, 1000} {
			var said []string
			for n := 0; n <= count; n++ {
				m, why := spec.At(p, api.Options{Extended: c.extended}, w, n)
				if why != api.OK {
					t.Fatal("At:", why)
				}
				said = append(said, debug.Say(p, m))
				if m.Over {
					break
				}
			}
			args := []string{"debug", strconv.Itoa(count)}
			if c.extended {
				args = []string{"debug", "-E", strconv.Itoa(count)}
			}
			does(t, args, []string{c.script, c.input}, strings.Join(said, "--\n"), "", 0)
		}
	}
	does(t, words("debug 5"), []string{"p\nk", "a\n"}, "", "script byte 2 rule 1\n", 1)
	does(t, words("debug 5"), []string{"s/(a)/\\1/", "a\n"}, "", "script byte 6 rule 16\n", 1)
	does(t, words("debug -E 5"), []string{"s/\\(a\\)/\\1/", "a\n"}, "", "script byte 8 rule 16\n", 1)
}

// P30.4: many steps of a great script are gone one by one, none of them again for each one behind it.
func TestLongDebug(t *testing.T) {
	script := strings.Repeat("s/[a-z]\\{1,255\\}[a-z]\\{1,255\\}.\\{1,255\\}x\\{200\\}/&/\n", 1000)
	if out, line, code := front.Run(words("debug 1000"), []string{script, "aaaa\n"}); strings.Count(out, "--\n") != 1000 || line != "" || code != 0 {
		t.Error("a long run:", len(out), line, code)
	}
}

// P30.5: what is handed in stays as it is, spare room too; no goroutine is left.
func TestMemory(t *testing.T) {
	before := runtime.NumGoroutine()
	for _, command := range strings.Fields(everyCommand) {
		args, files := right(command), usual(command)
		roomyArgs, roomyFiles := append(slices.Clone(args), "mark")[:len(args)], append(slices.Clone(files), "mark")[:len(files)]
		front.Run(roomyArgs, roomyFiles)
		if !slices.Equal(roomyArgs[:len(args)+1], append(args, "mark")) || !slices.Equal(roomyFiles[:len(files)+1], append(files, "mark")) {
			t.Error("what was handed in has changed:", command)
		}
	}
	// A goroutine that has done all that it does may take a moment till it is no longer counted.
	for tries := 0; runtime.NumGoroutine() > before; tries++ {
		if tries == 5000 {
			t.Fatal("goroutines are left:", runtime.NumGoroutine()-before)
		}
		time.Sleep(time.Millisecond)
	}
}
