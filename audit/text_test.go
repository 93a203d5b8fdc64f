package audit_test

import (
	"math/rand"
	"regexp"
	"strconv"
	"strings"
	"testing"

	"paddock/api"
	"paddock/audit"
	"paddock/lines"
	"paddock/wood"
)

// P24.2: the chapter's examples, and one or more lines of each rule.
func TestReadFaults(t *testing.T) {
	long := strings.Repeat("n", api.MaxName)
	for s, rule := range map[string]int{
		`read "/a" 0`: 1, ``: 0, `chown`: 1, `x`: 1, `read "/a/" 00`: 1,
		"\n": 2, "chown \"/a\" 0\n": 2, "read\n": 2, "read\t\"/a\" 0\n": 2, " read \"/a\" 0\n": 2, "Read \"/a\" 0\n": 2, "exec \"/a\" 0\n": 2, "exec - 0\n": 2, "lstatx\n": 2,
		"deny \n": 2, "deny path \n": 2, "deny path read\n": 2, "deny  path read - \"\"\n": 2, "deny path  read - \"\"\n": 2, "deny none read - \"\"\n": 2,
		"deny hold read \"/a\" \"a\"\n": 2, "deny exec read - \"\"\n": 2, "deny path exec - \"\"\n": 2, "deny prefix exec - \"\"\n": 2, "deny link lstat \"/a\" \"a\"\n": 2,
		"deny prefix lstat \"/a\" \"a\"\n": 2, "deny path lstat - \"a\"\n": 2, "deny hold exec \"/a\" \"\"\n": 2, "# read \"/a\" 0\n": 2,
		"read /a 0\n": 3, "read \n": 3, "read  \"/a\" 0\n": 3, "read \"/a\"  0\n": 3, "read \"/a\" 0 \n": 3, "read \"/a\" \n": 3, "read \"/a\"\n": 3, "read \"/a\"0\n": 3,
		"read \"/a\" 0000\n": 3, "read \"/a\" -1\n": 3, "read \"/a\" +1\n": 3, "read \"/a\" x\n": 3, "read \"/a\" 1x\n": 3, "read \"/a\" \"/b\" 0\n": 3, "rename \"/a\" 0\n": 3,
		"rename \"/a\" \"/b\" \n": 3, "rename \"/a\"\"/b\" 0\n": 3, "read \"/\\a\" 0\n": 0, "read \"/\\q\" 0\n": 3, "read \"/\\101\" 0\n": 3, "read \"/a\t\" 0\n": 3, "read \"/a 0\n": 3,
		"read - 0\n": 3, "deny prefix read - \"a\"\n": 3, "deny path read \"/\" \"a\"\n": 3, "deny exec exec \"/\" \"a\"\n": 3, "deny exec exec -\n": 3, "deny exec exec - \n": 3, "deny exec exec -- \"\"\n": 3,
		"deny exec exec - \"ls\" \n": 3, "deny exec exec -\"ls\"\n": 3, "deny exec exec - ls\n": 3, "deny exec exec - \"ls\" 0\n": 3, "deny hold rename \"/a\" 0\n": 3, "deny hold rename \"a\" \"/b\" \"c\"\n": 3,
		"read \"/a/\" 0\n": 4, "read \"\" 0\n": 4, "read \"a\" 0\n": 4, "read \"//a\" 0\n": 4, "read \"/./a\" 0\n": 4, "read \"/a/..\" 0\n": 4, "read \"/a\\000\" 0\n": 4, "read \"/a/\" 00\n": 4,
		"rename \"/a\" \"b\" 00\n": 4, "rename \"a\" \"/b\" 0\n": 4, "rename \"a\" \"/b\" x\n": 3, "rename \"a\" b 0\n": 3, "deny prefix read \"s\" \"s\"\n": 4, "deny hold rename \"\" \"s\"\n": 4,
		"read \"/" + long + "\" 0\n": 0, "read \"/" + long + "n\" 0\n": 4, "read \"" + wood.Own(wide(api.MaxPath)) + "\" 0\n": 0, "read \"" + wood.Own(wide(api.MaxPath+1)) + "\" 0\n": 4,
		"read \"/a\" 00\n": 5, "read \"/a\" 000\n": 5, "read \"/a\" 01\n": 5, "read \"/a\" 042\n": 5, "rename \"/a\" \"/b\" 00\n": 5, "read \"/a\" 999\n": 0, "read \"/\" 0\n": 0,
		"deny path rename - \"\\000\\n\"\n": 0,
	} {
		for i, ahead := range []string{"", "lstat \"/a\" 0\n", "deny exec exec - \"\"\nread \"/\" 1\n"} {
			l, why, fault := audit.Read(ahead + s)
			want, no := api.Fault{Line: i + 1, Rule: rule}, api.ErrAudit
			if rule == 0 {
				want, no = api.Fault{}, api.OK
			}
			if why != no || fault != want || why != api.OK && l != nil || why == api.OK && len(l) != i+strings.Count(s, "\n") {
				t.Errorf("Read(%q) = %v, %d, %v, not rule %d", ahead+s, l, why, fault, rule)
			}
		}
	}
	// The least line counts, whatever its rule.
	if _, _, fault := audit.Read("read \"/\" 0\nread \"/\" 00\nx\ny"); fault != (api.Fault{Line: 2, Rule: 5}) {
		t.Error(fault)
	}
}

// told is what lines.Quote writes, as an expression.
const told = `("(?:[ !#-\[\]-~]|\\["\\abfnrtv]|\\00[0-6]|\\01[67]|\\0[23][0-7]|\\177|\\[23][0-7][0-7])*")`

var (
	firstWords = regexp.MustCompile(`^(?:(lstat|read|create|append|rename) |deny (path|prefix|link) (read|create|append|rename) |deny (hold) (rename) |deny (exec) (exec) )`)
	oneEnd     = regexp.MustCompile(`^(?:lstat|read|create|append) ` + told + ` ([0-9]{1,3})$`)
	bothEnds   = regexp.MustCompile(`^rename ` + told + ` ` + told + ` ([0-9]{1,3})$`)
	deniedAt   = regexp.MustCompile(`^deny (?:prefix|link|hold) \w+ ` + told + ` ` + told + `$`)
	deniedNone = regexp.MustCompile(`^deny (?:path|exec) \w+ - ` + told + `$`)
	kindWords  = strings.Fields("none lstat read create append rename exec")
	denyWords  = strings.Fields("none path prefix hold link exec")
)

// number is a word's place in a list of words.
func number(l []string, word string) int {
	for i, x := range l {
		if x == word {
			return i
		}
	}
	return 0
}

// pathOf is a second reading of a path's own text.
func pathOf(quoted string) (api.Path, bool) {
	s, _, _, _ := lines.Unquote(quoted)
	if s == "/" {
		return nil, true
	}
	names := strings.Split(s, "/")
	ok := names[0] == "" && len(names) > 1 && len(s) <= 1024
	for _, name := range names[1:] {
		ok = ok && name != "" && name != "." && name != ".." && len(name) <= 255 && !strings.Contains(name, "\x00")
	}
	return names[1:], ok
}

// plainLine is a second reading of a line's rules, behind the first one.
func plainLine(s string) (e api.Entry, rule int) {
	head := firstWords.FindStringSubmatch(s)
	if head == nil {
		return e, 2
	}
	e.Call.Kind = api.CallKind(number(kindWords, head[1]+head[3]+head[5]+head[7]))
	e.Deny = api.DenyKind(number(denyWords, head[2]+head[4]+head[6]))
	path, to, why := `"/"`, `"/"`, "0"
	if m := oneEnd.FindStringSubmatch(s); m != nil {
		path, why = m[1], m[2]
	} else if m := bothEnds.FindStringSubmatch(s); m != nil {
		path, to, why = m[1], m[2], m[3]
	} else if m := deniedAt.FindStringSubmatch(s); m != nil {
		path = m[1]
		e.Text, _, _, _ = lines.Unquote(m[2])
	} else if m := deniedNone.FindStringSubmatch(s); m != nil {
		e.Text, _, _, _ = lines.Unquote(m[1])
	} else {
		return api.Entry{}, 3
	}
	p, one := pathOf(path)
	q, two := pathOf(to)
	n, _ := strconv.Atoi(why)
	e.Call.Path, e.Call.To, e.Call.Why = p, q, api.Errno(n)
	if !one || !two {
		return api.Entry{}, 4
	}
	if len(why) > 1 && why[0] == '0' {
		return api.Entry{}, 5
	}
	return e, 0
}

// plainRead is a second reading of Read.
func plainRead(s string) ([]api.Entry, api.Fault) {
	var out []api.Entry
	for line := 1; s != ""; line++ {
		text, rest, whole := strings.Cut(s, "\n")
		if !whole {
			return nil, api.Fault{Line: line, Rule: 1}
		}
		e, rule := plainLine(text)
		if rule != 0 {
			return nil, api.Fault{Line: line, Rule: rule}
		}
		out = append(out, e)
		s = rest
	}
	return out, api.Fault{}
}

// holdsText holds Read against its second reading, and what it has read against Print.
func holdsText(t *testing.T, s string) int {
	t.Helper()
	l, why, fault := audit.Read(s)
	want, place := plainRead(s)
	if fault != place || (why == api.OK) != (place == api.Fault{}) || why != api.OK && why != api.ErrAudit || !same(l, want) {
		t.Fatalf("Read(%q) = %v, %d, %v, not %v, %v", s, l, why, fault, want, place)
	}
	if why != api.OK {
		return fault.Rule
	}
	if back, no := audit.Print(l); back != s || no != api.OK {
		t.Fatalf("Print(Read(%q)) = %q, %d", s, back, no)
	}
	for _, e := range l {
		if !audit.Right(e) {
			t.Fatalf("Read(%q) has %v", s, e)
		}
	}
	return 0
}

// P24.2, P24.7: lines of each form, with each one or two bytes taken away, put in, or put in the place of others.
func TestReadChanged(t *testing.T) {
	pieces := []string{"", " ", "\"", "\\", "\n", "/", "-", "0", "7", "a", ".", "\x00", "\xff", "read ", "\"/\"", " 0"}
	count := [6]int{}
	for _, e := range append(someLog(), call(api.CallRead, "", 0), call(api.CallRead, "a ...", 999), denial(api.DenyPrefix, api.CallCreate, "", "\n\"\x00")) {
		s, _ := audit.Print([]api.Entry{e})
		for i := range len(s) + 1 {
			for width := range 3 {
				for _, piece := range pieces {
					count[holdsText(t, s[:i]+piece+s[min(i+width, len(s)):])]++
				}
			}
		}
	}
	for rule, n := range count {
		if n < 20 {
			t.Errorf("rule %d is broken %d times alone", rule, n)
		}
	}
}

// P24.2, P24.7: rows of words by chance. The source of numbers is the same in each run of the tests.
func TestReadWords(t *testing.T) {
	source := rand.New(rand.NewSource(24))
	words := strings.Fields(`lstat read create append rename exec deny deny deny path prefix hold link exec none - "/" "/a" "/a/b" "/a/" "a" "" "\n" 0 1 42 999 00 1000 x`)
	forms := []string{"read P W", "lstat P W", "rename P P W", "deny prefix read P T", "deny hold rename P T", "deny path append - T", "deny exec exec - T", "deny link rename P T"}
	ends := []string{"\n", "\n", "\n", "\n", "", " \n", "\n\n"}
	pick := func(l []string) string { return l[source.Intn(len(l))] }
	count := [6]int{}
	for range 300000 {
		s := ""
		for range 1 + source.Intn(3) {
			parts := strings.Fields(pick(forms))
			for i, x := range parts {
				switch {
				case x == "P":
					parts[i] = pick([]string{`"/"`, `"/a"`, `"/a/b"`, `"/a"`, `"/a/b"`, `"/-"`, `"b"`})
				case x == "W":
					parts[i] = pick([]string{"0", "1", "42", "999", "31", "0", "00"})
				case x == "T":
					parts[i] = pick([]string{`""`, `"a/../s"`, `"\n"`, `"\377"`})
				}
				if source.Intn(40) == 0 {
					parts[i] = pick(words)
				}
			}
			s += strings.Join(parts, " ") + pick(ends[:4+source.Intn(1+source.Intn(4))])
		}
		count[holdsText(t, s)]++
	}
	for rule, n := range count {
		if n < 200 {
			t.Errorf("rule %d is broken %d times alone", rule, n)
		}
	}
}

// P24.10: the text of two logs, one behind the other, is that of both.
func TestParts(t *testing.T) {
	l := someLog()
	for i := range len(l) + 1 {
		a, why := audit.Print(l[:i])
		b, no := audit.Print(l[i:])
		both, none := audit.Print(l)
		if a+b != both || why != api.OK || no != api.OK || none != api.OK {
			t.Errorf("%q and %q, not %q", a, b, both)
		}
		front, _, _ := audit.Read(a)
		back, _, _ := audit.Read(b)
		whole, _, _ := audit.Read(a + b)
		if !same(append(front, back...), whole) {
			t.Error("Read of both parts:", i)
		}
		if len(audit.Trace(l[:i]))+len(audit.Trace(l[i:])) != len(audit.Trace(l)) || len(audit.Trace(l[:i]))+len(audit.Denials(l[:i])) != i {
			t.Error("Trace and Denials of both parts:", i)
		}
		for k, c := range append(audit.Trace(l[:i]), audit.Trace(l[i:])...) {
			if !sameCall(c, audit.Trace(l)[k]) {
				t.Error("Trace of both parts:", i)
			}
		}
	}
}

// A long log takes no longer than its bytes do.
func TestLongLog(t *testing.T) {
	const many = 100000
	var l []api.Entry
	for range many {
		l = append(l, call(api.CallAppend, "a b", 0))
	}
	s, why := audit.Print(l)
	if s != strings.Repeat("append \"/a/b\" 0\n", many) || why != api.OK {
		t.Error("Print:", len(s), why)
	}
	if got, no, _ := audit.Read(s); !same(got, l) || no != api.OK {
		t.Error("Read:", len(got), no)
	}
	text := strings.Repeat("\n", 1<<20)
	s, _ = audit.Print([]api.Entry{denial(api.DenyExec, api.CallExec, "", text)})
	if got, no, _ := audit.Read(s); no != api.OK || got[0].Text != text {
		t.Error("a long text:", no)
	}
}
