package sandbox_test

import (
	"strings"
	"testing"

	"paddock/api"
	"paddock/marsh"
	"paddock/sandbox"
	"paddock/wood"
)

// several is a job with inputs in the folder d: e is empty, f and g have two lines each, h lacks its last LF.
func several(s string, names ...string) api.Job {
	j := small(s, names...)
	j.Input = "i\nj"
	j.Tree.Files[0].Files = []api.File{wood.Text("e", ""), wood.Text("f", "a\nb\n"), wood.Text("g", "c\nd\n"), wood.Text("h", "x")}
	return j
}

// edited are the calls of an edit of a file whose Appends are so many.
func edited(name string, appends int) string {
	temp := name + ".paddock~"
	return "create" + temp + strings.Repeat(" append"+temp, appends) + " rename" + temp + ">" + name
}

// begun are those of an edit that is not closed.
func begun(name string, appends int) string {
	all := strings.Fields(edited(name, appends))
	return strings.Join(all[:len(all)-1], " ")
}

// 4, 5: what is asked for, in which order; where what is printed goes.
func TestInPlace(t *testing.T) {
	f, g, h := "/d/f", "/d/g", "/d/h"
	for _, c := range []struct{ s, names, want, trace, changed string }{
		{"s/$/!/", "d/f", `"" 0 0 0 `, "read/d/f " + edited(f, 2), `/d/f="a!\nb!\n"`},
		{"d", "d/f", `"" 0 0 0 `, "read/d/f " + edited(f, 0), `/d/f=""`},
		{"", "d/h", `"" 0 0 0 `, "read/d/h " + edited(h, 1), ``},
		{"p", "d/h", `"" 0 0 0 `, "read/d/h " + edited(h, 2), `/d/h="x\nx"`},
		{"", "d/e", `"" 0 0 0 `, "read/d/e", ``},
		{"=;F;i\\\nt\nl;a u", "d/h", `"" 0 0 0 `, "read/d/h " + edited(h, 6), `/d/h="1\nd/h\nt\nx$\nx\nu\n"`},
		// the next input is read ahead of the end of an edit, which is closed ahead of the next one
		{"s/$/!/", "d/f d/g", `"" 0 0 0 `, "read/d/f " + begun(f, 1) + " read/d/g append/d/f.paddock~ rename/d/f.paddock~>/d/f " + edited(g, 2), `/d/f="a!\nb!\n" /d/g="c!\nd!\n"`},
		{"s/$/!/", "d/f d/e d/z d/h", `"" 2 0 0 `, "read/d/f " + begun(f, 1) + " read/d/e read/d/z=31 read/d/h append/d/f.paddock~ rename/d/f.paddock~>/d/f " + edited(h, 1), `/d/f="a!\nb!\n" /d/h="x!"`},
		// the standard input has no edit: what is printed goes out
		{"p", "", `"i\ni\nj\nj" 0 0 0 `, "", ""},
		{"s/$/!/", "-", `"i!\nj!" 0 0 0 `, "", ""},
		{"s/$/!/", "d/f - d/g", `"i!\nj!" 0 0 0 `, "read/d/f " + edited(f, 2) + " read/d/g " + edited(g, 2), `/d/f="a!\nb!\n" /d/g="c!\nd!\n"`},
		{"s/$/!/", "- d/f -", `"i!\nj!i!\nj!" 0 0 0 `, "read/d/f " + edited(f, 2), `/d/f="a!\nb!\n"`},
		{"s/$/!/w /dev/stdout", "d/f -", `"a!\nb!\ni!\ni!\nj!j!" 0 0 0 `, "read/d/f " + edited(f, 2), `/d/f="a!\nb!\n"`},
		{"s/$/!/", "./-", `"" 3 8 61 denied read "/-" prefix`, "", ""},
		// a file twice: the second edit has what it was at first
		{"1s/$/!/", "d/f d/f", `"" 0 0 0 `, "read/d/f " + begun(f, 1) + " read/d/f append/d/f.paddock~ rename/d/f.paddock~>/d/f " + edited(f, 2), `/d/f="a!\nb\n"`},
		{"s/a/!/", "/d/./f", `"" 0 0 0 `, "read/d/f " + edited(f, 2), `/d/f="!\nb\n"`},
		// the end: by q and Q it is closed, else not
		{"q5", "d/f d/g", `"" 5 1 0 `, "read/d/f " + edited(f, 1), `/d/f="a\n"`},
		{"Q", "d/f d/g", `"" 0 1 0 `, "read/d/f " + edited(f, 0), `/d/f=""`},
		{"2q", "d/f -", `"" 0 1 0 `, "read/d/f " + edited(f, 2), ``},
		{"2e ls", "d/f", `"" 3 2 61 denied exec "ls" command`, "read/d/f " + begun(f, 1), `/d/f.paddock~="a\n"`},
		{"$s/./ls &/e", "d/f", `"" 3 2 61 denied exec "ls b" command`, "read/d/f " + begun(f, 1), `/d/f.paddock~="a\n"`},
		{"2r /s", "d/f", `"" 3 8 61 denied read "/s" prefix`, "read/d/f " + begun(f, 2), `/d/f.paddock~="a\nb\n"`},
		{"", "d/f /s", `"" 3 8 61 denied read "/s" prefix`, "read/d/f " + begun(f, 1), `/d/f.paddock~="a\n"`},
		{"", "d/f d/h/x", `"" 5 9 32 failed lstat "/d/h/x" code 32`, "read/d/f " + begun(f, 1), `/d/f.paddock~="a\n"`},
		{"w d/o\nr d/o", "d/h", `"" 0 0 0 `, "create/d/o read/d/h create/d/h.paddock~ append/d/o append/d/h.paddock~ read/d/o append/d/h.paddock~ rename/d/h.paddock~>/d/h", `/d/h="x\nx" /d/o="x"`},
		{"x", "d/f", `"" 0 0 0 `, "read/d/f " + edited(f, 2), `/d/f="\na\n"`},
	} {
		wants(t, inPlace(several(c.s, strings.Fields(c.names)...), ""), c.want, c.trace, c.changed)
	}
}

// 4, 5: copies that are kept, and suffixes that make no name.
func TestSuffix(t *testing.T) {
	read, temp, last := "read/d/f", begun("/d/f", 2), " rename/d/f.paddock~>/d/f"
	for _, c := range []struct{ suffix, want, trace, changed string }{
		{"~", `"" 0 0 0 `, read + " " + temp + " create/d/f~ append/d/f~" + last, `/d/f="a!\nb!\n" /d/f~="a\nb\n"`},
		{"old-*", `"" 0 0 0 `, read + " " + temp + " create/d/old-f append/d/old-f" + last, `/d/f="a!\nb!\n" /d/old-f="a\nb\n"`},
		{"a/b", `"" 5 9 20 failed code 20`, read, ""},
		{"\x00", `"" 5 9 20 failed code 20`, read, ""},
		{"*", `"" 5 9 20 failed code 20`, read, ""},
		{".paddock~", `"" 5 9 20 failed code 20`, read, ""},
		{strings.Repeat("x", api.MaxName), `"" 3 8 61 denied create "/d/f` + strings.Repeat("x", api.MaxName) + `" path`, read + " " + temp, `/d/f.paddock~="a!\nb!\n"`},
		{"d", `"" 5 9 40 failed create "/d/fd" code 40`, read + " " + temp + " create/d/fd=40", `/d/f.paddock~="a!\nb!\n"`},
		{"l", `"" 3 8 61 denied create "/d/fl" link`, read + " " + temp, `/d/f.paddock~="a!\nb!\n"`},
	} {
		j := inPlace(small("s/$/!/", "d/f"), c.suffix)
		j.Tree.Files[0].Files = append(j.Tree.Files[0].Files, wood.Dir("fd"), wood.Link("fl", "f"))
		wants(t, j, c.want, c.trace, c.changed)
	}
	// Without -i a suffix says nothing.
	j := small("", "d/f")
	j.Options.Suffix = "/"
	wants(t, j, `"a\nb\n" 0 0 0 `, read, "")
	// An error of New that is none of a call, behind a call that failed in another way.
	wants(t, inPlace(several("", "d/h", "d/z"), "*"), `"" 5 9 20 failed code 20`, "read/d/h read/d/z=31", "")
}

// 4: the errors of an edit are those of Take, or of Put: the first one, behind which nothing is asked for; 5: of its end, the run's.
func TestEditFails(t *testing.T) {
	// Of two files with a line each, and copies: the calls are 0 Lstat h, 1 Read h, 2 Lstat k, 3 Read k; 4, 5 Create the temporary file of h;
	// 6, 7 Append to it; 8, 9 Create h~, 10, 11 Append to it, 12 to 14 Rename; 15, 16 Create that of k; 17, 18 Append to it; 19, 20 Create k~, 21, 22 Append, 23 to 25 Rename.
	job := func(faults ...int) api.Job {
		j := inPlace(several("s/$/!/", "d/h", "d/k"), "~")
		j.Tree.Files[0].Files = append(j.Tree.Files[0].Files, wood.Text("k", "y\n"))
		j.Faults = faults
		return j
	}
	said := []string{
		"lstat /d/h", "read /d/h", "lstat /d/k", "read /d/k", "lstat /d/h.paddock~", "create /d/h.paddock~", "lstat /d/h.paddock~", "append /d/h.paddock~",
		"lstat /d/h~", "create /d/h~", "lstat /d/h~", "append /d/h~", "lstat /d/h.paddock~", "lstat /d/h", "rename /d/h.paddock~",
		"lstat /d/k.paddock~", "create /d/k.paddock~", "lstat /d/k.paddock~", "append /d/k.paddock~",
		"lstat /d/k~", "create /d/k~", "lstat /d/k~", "append /d/k~", "lstat /d/k.paddock~", "lstat /d/k", "rename /d/k.paddock~",
	}
	for k, what := range said {
		o := sandbox.Run(job(k))
		kind, at, _ := strings.Cut(what, " ")
		want := `"" 5 9 42 failed ` + kind + ` "` + at + `" code 42`
		steps := 0
		if k > 5 {
			steps = 1
		}
		if k > 16 {
			steps = 2
		}
		if told(o) != want || len(o.Trace) != k+1 || o.Steps != steps || o.Stop != api.StopFault {
			t.Errorf("fault %d: %s with %d calls and %d steps, not %s", k, told(o), len(o.Trace), o.Steps, want)
		}
		h, k2 := wood.Table(o.Tree)["/d/h"].Data, wood.Table(o.Tree)["/d/k"].Data
		if (h == "x") != (k <= 14) || h != "x" && h != "x!" || k2 != "y\n" {
			t.Errorf("fault %d: %q, %q", k, h, k2)
		}
	}
	o := sandbox.Run(job(len(said)))
	if told(o) != `"" 0 0 0 ` || wood.Texts(o.Tree) != `/d/e="" /d/f="a\nb\n" /d/g="c\nd\n" /d/h="x!" /d/h~="x" /d/k="y!\n" /d/k~="y\n" /s="secret"` || len(o.Trace) != len(said) {
		t.Error("without a fault:", marsh.ShowOutcome(o))
	}
	// q's code is not told, if the end fails.
	j := inPlace(failing(small("q7", "d/f"), 6), "")
	wants(t, j, `"" 5 9 42 failed lstat "/d/f.paddock~" code 42`, "read/d/f "+begun("/d/f", 1), `/d/f.paddock~="a\n"`)
	// Nor that an input was not there.
	j = inPlace(failing(several("", "d/z", "d/h"), 10), "")
	wants(t, j, `"" 5 9 42 failed rename "/d/h.paddock~" code 42`, "read/d/z=31 read/d/h "+begun("/d/h", 1)+" rename/d/h.paddock~>/d/h=42", `/d/h.paddock~="x"`)
}

// 4: what the policy has to let through for an edit: the file is read, the temporary file and it are written; a prefix holds its place.
func TestEditDenied(t *testing.T) {
	temp := wood.Text("f.paddock~", "left")
	for _, c := range []struct {
		read, write []api.Path
		want, trace string
	}{
		{wood.Paths("d"), wood.Paths("d"), `"" 0 0 0 `, "read/d/f " + edited("/d/f", 2)},
		{nil, wood.Paths("d"), `"" 3 8 61 denied read "/d/f" prefix`, ""},
		{wood.Paths("d"), nil, `"" 3 8 61 denied create "/d/f.paddock~" prefix`, "read/d/f"},
		{wood.Paths("d"), wood.Paths("d f"), `"" 3 8 61 denied create "/d/f.paddock~" prefix`, "read/d/f"},
		{wood.Paths("d"), wood.Paths("d f.paddock~"), `"" 3 8 61 denied rename "/d/f.paddock~" held`, "read/d/f " + begun("/d/f", 2)},
		{wood.Paths("d f"), wood.Paths("d"), `"" 3 8 61 denied rename "/d/f" held`, "read/d/f " + begun("/d/f", 2)},
		{wood.Paths("d", "d f.paddock~ x"), wood.Paths("d"), `"" 0 0 0 `, "read/d/f " + edited("/d/f", 2)},
		{wood.Paths("d f"), wood.Paths("d f.paddock~"), `"" 3 8 61 denied rename "/d/f.paddock~" held`, "read/d/f " + begun("/d/f", 2)},
	} {
		j := inPlace(small("s/a/x/", "d/f"), "")
		j.Tree.Files[0].Files = append(j.Tree.Files[0].Files, temp)
		j.Policy.Read, j.Policy.Write = c.read, c.write
		o := sandbox.Run(j)
		if told(o) != c.want || calls(o) != c.trace {
			t.Errorf("%v, %v: %s; %s", c.read, c.write, told(o), calls(o))
		}
	}
	j := inPlace(small("s/a/x/", "d/f"), "")
	j.Tree.Files[0].Files = append(j.Tree.Files[0].Files, wood.Link("f.paddock~", "/s"))
	wants(t, j, `"" 3 8 61 denied create "/d/f.paddock~" link`, "read/d/f", "")
}

// The message and 25.6: quotas, at just so much and at one less; the edit of an input is a file.
func TestExhausted(t *testing.T) {
	for _, c := range []struct {
		j     api.Job
		quota api.Policy
		out   [4]string
	}{
		{several("s/a/x/", "d/f"), api.Policy{Fuel: 6, Memory: 1, Output: 4}, [4]string{`"x\n" 4 4 0 exhausted fuel`, `"" 4 5 0 exhausted memory`, `"x\n" 4 6 0 exhausted output`, ""}},
		{several("w d/o\nG", "d/f"), api.Policy{Fuel: 4, Memory: 2, Output: 6, Each: 4}, [4]string{`"a\n\n" 4 4 0 exhausted fuel`, `"" 4 5 0 exhausted memory`, `"a\n\n" 4 6 0 exhausted output`, `"a\n\n" 4 7 0 exhausted file`}},
		{inPlace(several("p", "d/f"), "~"), api.Policy{Fuel: 2, Memory: 1, Each: 8}, [4]string{`"" 4 4 0 exhausted fuel`, `"" 4 5 0 exhausted memory`, "", `"" 4 7 0 exhausted file`}},
		{inPlace(several("p", "-"), "~"), api.Policy{Fuel: 2, Memory: 1, Each: 7}, [4]string{`"i\ni\n" 4 4 0 exhausted fuel`, `"" 4 5 0 exhausted memory`, "", `"i\ni\nj" 4 7 0 exhausted file`}},
		{several(""), api.Policy{Memory: 1, Output: 3}, [4]string{"", `"" 4 5 0 exhausted memory`, `"i\n" 4 6 0 exhausted output`, ""}},
		{several("w d/o\nw ./d/o\nd", "d/f"), api.Policy{Fuel: 6, Memory: 1, Each: 8}, [4]string{`"" 4 4 0 exhausted fuel`, `"" 4 5 0 exhausted memory`, "", `"" 4 7 0 exhausted file`}},
	} {
		c.quota.Read, c.quota.Write = c.j.Policy.Read, c.j.Policy.Write
		c.j.Policy = c.quota
		if o := sandbox.Run(c.j); o.Code != 0 || o.Stop != api.StopNone || o.Message != "" || o.Cost != c.quota.Fuel || o.Peak != c.quota.Memory {
			t.Errorf("%q: %s, cost %d, peak %d", c.j.Script, told(o), o.Cost, o.Peak)
		}
		for i, n := range []*int{&c.j.Policy.Fuel, &c.j.Policy.Memory, &c.j.Policy.Output, &c.j.Policy.Each} {
			if *n == 0 {
				continue
			}
			*n--
			if o := sandbox.Run(c.j); told(o) != c.out[i] {
				t.Errorf("%q, one less of %d: %s, not %s", c.j.Script, i, told(o), c.out[i])
			}
			*n++
		}
	}
	// Ahead of a quota that is spent the files are made, and the first inputs are read.
	j := inPlace(several("w d/o\np", "d/h", "d/f"), "")
	j.Policy = api.Policy{Read: j.Policy.Read, Write: j.Policy.Write}
	wants(t, j, `"" 4 5 0 exhausted memory`, "create/d/o read/d/h read/d/f create/d/h.paddock~", `/d/h.paddock~="" /d/o=""`)
	j.Policy.Memory = 1
	wants(t, j, `"" 4 4 0 exhausted fuel`, "create/d/o read/d/h read/d/f create/d/h.paddock~", `/d/h.paddock~="" /d/o=""`)
}
