package policy_test

import (
	"math/rand"
	"slices"
	"strings"
	"testing"

	"paddock/api"
	"paddock/lines"
	"paddock/paths"
	"paddock/policy"
	"paddock/wood"
)

// 5.4: what is taken.
func TestParse(t *testing.T) {
	for _, c := range []struct {
		s    string
		want api.Policy
	}{
		{"", of("", "")}, {"\n\n", of("", "")}, {"# read \"/a\"\n#\n#fuel x", of("", "")},
		{"read \"/a\"\nread \"/a/b\"\nwrite \"/tmp\"\nfuel 100\n", of("a;a b", "tmp", 100)},
		{"read \"/a\"\nread \"/a/b\"\nwrite \"/tmp\"\nfuel 100", of("a;a b", "tmp", 100)},
		{"each 4\noutput 3\n\nmemory 2\n# between\nfuel 1", of("", "", 1, 2, 3, 4)},
		{"write \"/b\"\nread \"/c\"\nwrite \"/a\"\nread \"/c\"\nwrite \"/b\"", of("c;c", "b;a;b")},
		{"read \"/\"\nread \"/a/./b//c/../d\"\nread \"/..\"\nwrite \"/a/\"", of("/;a b d;/", "a")},
		{"fuel 0\nmemory 0\noutput 0\neach 0", of("", "")},
		{"fuel 1073741824\nmemory 1073741824\noutput 4294967296\neach 4294967296", of("", "", api.MaxNumber, api.MaxMemory, api.MaxQuota, api.MaxQuota)},
		{"read \"/\\\"\\n\\377\"", api.Policy{Read: []api.Path{{"\"\n\xff"}}}},
	} {
		p, why, fault := policy.Parse(c.s)
		if why != api.OK || fault != (api.Fault{}) || !same(p, c.want) {
			t.Errorf("Parse(%q) = %v, %d, %v", c.s, p, why, fault)
		}
	}
}

// 5.4: each rule, at its edges; of two that are broken the lesser one, of two lines the one ahead.
func TestParseFaults(t *testing.T) {
	nines := strings.Repeat("9", 400)
	long := "/" + strings.Repeat("n", api.MaxName+1)
	for s, want := range map[string]api.Fault{
		"exec 1": {Line: 1, Rule: 1}, "fuel": {Line: 1, Rule: 1}, " fuel 1": {Line: 1, Rule: 1}, "Fuel 1": {Line: 1, Rule: 1}, "fuels 1": {Line: 1, Rule: 1}, "fuel\t1": {Line: 1, Rule: 1}, "read\"/a\"": {Line: 1, Rule: 1}, " ": {Line: 1, Rule: 1}, " # a": {Line: 1, Rule: 1}, "read": {Line: 1, Rule: 1}, "\x00": {Line: 1, Rule: 1}, "reads \"/a\"": {Line: 1, Rule: 1}, " 1": {Line: 1, Rule: 1},
		"read /a": {Line: 1, Rule: 2}, "read ": {Line: 1, Rule: 2}, "read  \"/a\"": {Line: 1, Rule: 2}, "read \"/a\" ": {Line: 1, Rule: 2}, "write \"/a": {Line: 1, Rule: 2}, "write \"/a\"\"": {Line: 1, Rule: 2}, "read \"/a\"\r\n": {Line: 1, Rule: 2}, "read 1": {Line: 1, Rule: 2}, "read \"/\\101\"": {Line: 1, Rule: 2}, "read \"/\t\"": {Line: 1, Rule: 2},
		"fuel 01": {Line: 1, Rule: 2}, "fuel 00": {Line: 1, Rule: 2}, "fuel ": {Line: 1, Rule: 2}, "fuel  1": {Line: 1, Rule: 2}, "fuel 1 ": {Line: 1, Rule: 2}, "fuel +1": {Line: 1, Rule: 2}, "fuel -1": {Line: 1, Rule: 2}, "fuel 0x1": {Line: 1, Rule: 2}, "fuel 1_0": {Line: 1, Rule: 2}, "fuel a": {Line: 1, Rule: 2}, "memory 1a": {Line: 1, Rule: 2}, "output 1.0": {Line: 1, Rule: 2}, "each \"1\"": {Line: 1, Rule: 2}, "fuel 0" + nines: {Line: 1, Rule: 2}, "fuel 1/": {Line: 1, Rule: 2}, "fuel :": {Line: 1, Rule: 2},
		"memory 1073741825": {Line: 1, Rule: 3}, "fuel 1073741825": {Line: 1, Rule: 3}, "output 4294967297": {Line: 1, Rule: 3}, "each 4294967297": {Line: 1, Rule: 3}, "fuel " + nines: {Line: 1, Rule: 3}, "each 18446744073709551616": {Line: 1, Rule: 3}, "each 9223372036854775808": {Line: 1, Rule: 3},
		"fuel 1\n\nfuel 2": {Line: 3, Rule: 4}, "memory 1\nmemory 1": {Line: 2, Rule: 4}, "output 0\noutput 0": {Line: 2, Rule: 4}, "each 1\nfuel 1\n#\neach 1\nfuel 1": {Line: 4, Rule: 4},
		"read \"a\"": {Line: 1, Rule: 5}, "read \"\"": {Line: 1, Rule: 5}, "write \"./a\"": {Line: 1, Rule: 5}, "read \"/\\000\"": {Line: 1, Rule: 5}, "read \"" + long + "\"": {Line: 1, Rule: 5}, "write \"" + strings.Repeat("/", api.MaxPath+1) + "\"": {Line: 1, Rule: 5},
		"fuel 1\nfuel 01": {Line: 2, Rule: 2}, "fuel 1\nfuel " + nines: {Line: 2, Rule: 3}, "fuel 01\nexec": {Line: 1, Rule: 2}, "\n# \n\nread \"a\"\nread": {Line: 4, Rule: 5},
	} {
		p, why, fault := policy.Parse(s)
		if why != api.ErrLine || fault != want || !same(p, api.Policy{}) {
			t.Errorf("Parse(%.80q) = %v, %d, %v, not %v", s, p, why, fault, want)
		}
	}
}

// 5.4, rule 6: at the limit and one past it, each word by itself; the lesser rules come first.
func TestParseMany(t *testing.T) {
	read, write := strings.Repeat("read \"/a\"\n", api.MaxFiles), strings.Repeat("\nwrite \"/b\"\n", api.MaxFiles)
	p, why, _ := policy.Parse(read + write)
	if why != api.OK || len(p.Read) != api.MaxFiles || len(p.Write) != api.MaxFiles {
		t.Errorf("at the limit: %d", why)
	}
	for s, want := range map[string]api.Fault{
		read + write + "read \"/a\"": {Line: 3*api.MaxFiles + 1, Rule: 6}, read + write + "write \"/a\"": {Line: 3*api.MaxFiles + 1, Rule: 6}, read + "read \"a\"": {Line: api.MaxFiles + 1, Rule: 5}, write + "write a": {Line: 2*api.MaxFiles + 1, Rule: 2}, read + "#\nread \"/\"": {Line: api.MaxFiles + 2, Rule: 6},
	} {
		if p, why, fault := policy.Parse(s); why != api.ErrLine || fault != want || !same(p, api.Policy{}) {
			t.Errorf("past the limit: %d, %v, not %v", why, fault, want)
		}
	}
	// The edges of a path's text.
	name := "/" + strings.Repeat("n", api.MaxName)
	for _, text := range []string{name, strings.Repeat(name, 4), strings.Repeat("/", api.MaxPath)} {
		if p, why, fault := policy.Parse("read \"" + text + "\""); why != api.OK || len(p.Read) != 1 {
			t.Errorf("a text of %d bytes: %d, %v", len(text), why, fault)
		}
	}
}

// broken is the least rule that a line breaks behind others, each rule asked by itself.
func broken(line string, ahead []string) int {
	word := ""
	for _, w := range strings.Fields("read write fuel memory output each") {
		if strings.HasPrefix(line, w+" ") {
			word = w
		}
	}
	rest := strings.TrimPrefix(line, word+" ")
	path := word == "read" || word == "write"
	text, n, why, _ := lines.Unquote(rest)
	number := strings.TrimLeft(rest, "0123456789") == "" && rest != "" && (rest == "0" || rest[0] != '0')
	most := map[string]string{"fuel": "1073741824", "memory": "1073741824", "output": "4294967296", "each": "4294967296"}[word]
	same := 0
	for _, l := range ahead {
		if strings.HasPrefix(l, word) {
			same++
		}
	}
	_, _, no := paths.Normal(nil, text)
	switch {
	case word == "":
		return 1
	case path && (why != api.OK || n != len(rest)) || !path && !number:
		return 2
	case !path && (len(rest) > len(most) || len(rest) == len(most) && rest > most):
		return 3
	case !path && same > 0:
		return 4
	case path && (!strings.HasPrefix(text, "/") || no != api.OK):
		return 5
	case path && same >= api.MaxFiles:
		return 6
	}
	return 0
}

// faultOf is the fault of a text by the rules above.
func faultOf(s string) api.Fault {
	var ahead []string
	for i, line := range strings.Split(s, "\n") {
		if line == "" || line[0] == '#' {
			continue
		}
		if rule := broken(line, ahead); rule != 0 {
			return api.Fault{Line: i + 1, Rule: rule}
		}
		ahead = append(ahead, line)
	}
	return api.Fault{}
}

// 5.4: lines of many kinds behind one another, held against the rules. The source of numbers is the same in each run of the tests.
func TestParseByTheRules(t *testing.T) {
	var pool []string
	for _, word := range []string{"read", "write", "fuel", "memory", "output", "each", "exec", "", "#read", "rea"} {
		for _, rest := range []string{"", " ", " 1", " 0", " 01", " 1073741824", " 1073741825", " 4294967296", " 4294967297", " \"/\"", " \"/a\"", " \"/a/../b\"", " \"a\"", " \"\"", " \"/a\"x", " /a", " -1", "\t1"} {
			pool = append(pool, word+rest)
		}
	}
	check := func(s string) {
		want := faultOf(s)
		p, why, fault := policy.Parse(s)
		if fault != want || (why == api.ErrLine) != (want.Rule != 0) || why != api.OK && why != api.ErrLine || why != api.OK && !same(p, api.Policy{}) {
			t.Fatalf("Parse(%q): %d, %v, not %v", s, why, fault, want)
		}
	}
	for _, a := range pool {
		check(a)
		for _, b := range pool {
			check(a + "\n" + b)
		}
	}
	source := rand.New(rand.NewSource(5))
	good := slices.DeleteFunc(slices.Clone(pool), func(l string) bool { return faultOf(l).Rule != 0 })
	for range 20000 {
		var l []string
		for range 1 + source.Intn(9) {
			if source.Intn(8) > 0 { // else few would be read far
				l = append(l, good[source.Intn(len(good))])
			} else {
				l = append(l, pool[source.Intn(len(pool))])
			}
		}
		check(strings.Join(l, "\n"))
	}
}

// P1: any bytes are read to an end.
func FuzzParse(f *testing.F) {
	for _, s := range []string{"", "read \"/a\"\nfuel 1\n", "write \"/\\", "fuel 99999999999999999999", "each 1\neach 2", "# \n\x00"} {
		f.Add(s)
	}
	f.Fuzz(func(t *testing.T, s string) {
		p, why, fault := policy.Parse(s)
		if (why == api.OK) != (fault == api.Fault{}) || why == api.OK && policy.Check(p) != api.OK || why != api.OK && !same(p, api.Policy{}) {
			t.Errorf("Parse(%q) = %v, %d, %v", s, p, why, fault)
		}
	})
}

// 5.5
func TestPrint(t *testing.T) {
	for _, c := range []struct {
		p    api.Policy
		want string
	}{
		{of("", ""), "fuel 0\nmemory 0\noutput 0\neach 0\n"},
		{of("a;a b", "tmp", 100), "read \"/a\"\nwrite \"/tmp\"\nfuel 100\nmemory 0\noutput 0\neach 0\n"},
		{of("b;a b;b c", "/;a", 1, 2, 3, 4), "read \"/a/b\"\nread \"/b\"\nwrite \"/\"\nfuel 1\nmemory 2\noutput 3\neach 4\n"},
		{of("", "", api.MaxNumber, api.MaxMemory, api.MaxQuota, api.MaxQuota), "fuel 1073741824\nmemory 1073741824\noutput 4294967296\neach 4294967296\n"},
		{api.Policy{Write: []api.Path{{"a b", "\"\n\xff\\"}}}, "write \"/a b/\\\"\\n\\377\\\\\"\nfuel 0\nmemory 0\noutput 0\neach 0\n"},
	} {
		if s, why := policy.Print(c.p); s != c.want || why != api.OK {
			t.Errorf("Print(%v) = %q, %d", c.p, s, why)
		}
	}
}

// 5.7: right policies, at their edges too, are read as they were written.
func TestThereAndBack(t *testing.T) {
	for _, p := range rightOnes() {
		s, why := policy.Print(p)
		q, no, _ := policy.Parse(s)
		want, _ := policy.Normal(p)
		if why != api.OK || no != api.OK || !same(q, want) {
			t.Errorf("Parse(Print(%.80v)) = %.80v, %d, %d", p, q, why, no)
		}
		if again, _ := policy.Print(q); again != s {
			t.Errorf("Print(Parse(%.80q)) = %.80q", s, again)
		}
	}
}

// 5.6: arguments stay as they are; answers are memory of their own.
func TestNewMemory(t *testing.T) {
	one, two := of("b;a;a b;a", "c d;c e;c", 1, 2, 3, 4), of("a;b c;d", "c;e", 4, 3, 2, 1)
	x := api.Policy{Read: wood.Roomy(one.Read), Write: wood.Roomy(one.Write), Fuel: 1, Memory: 2, Output: 3, Each: 4}
	y := api.Policy{Read: wood.Roomy(two.Read), Write: wood.Roomy(two.Write), Fuel: 4, Memory: 3, Output: 2, Each: 1}
	text, _ := policy.Print(two)
	ask := func() (out []api.Policy) {
		for _, call := range []func() (api.Policy, api.Errno){
			func() (api.Policy, api.Errno) { return policy.Normal(x) },
			func() (api.Policy, api.Errno) { return policy.Meet(x, y) },
			func() (api.Policy, api.Errno) { return policy.Meet(y, x) },
			func() (api.Policy, api.Errno) { return policy.Meet(x, x) },
			func() (api.Policy, api.Errno) { p, why, _ := policy.Parse(text); return p, why },
		} {
			p, why := call()
			if why != api.OK || len(p.Read) == 0 || len(p.Write) == 0 {
				t.Fatalf("%v, %d", p, why)
			}
			out = append(out, p)
		}
		policy.Check(x)
		policy.Same(x, y)
		policy.May(x, true, y.Read[0])
		policy.Within(x, y)
		policy.Print(x)
		return out
	}
	first := ask()
	for k, p := range ask() {
		// Each path by itself: no two lists of an answer share memory.
		for i := range p.Read {
			wood.Blot(p.Read[i])
			p.Read[i] = slices.Clone(first[k].Read[i])
			if !same(p, first[k]) {
				t.Errorf("answer %d: lists share memory: %v", k, p)
			}
		}
		wood.BlotAll(p.Read)
		if p.Read = first[k].Read; !same(p, first[k]) {
			t.Errorf("answer %d: Read and Write share memory: %v", k, p)
		}
		wood.BlotAll(p.Write)
	}
	again := ask()
	if !wood.Untouched(x.Read, one.Read) || !wood.Untouched(x.Write, one.Write) || !wood.Untouched(y.Read, two.Read) || !wood.Untouched(y.Write, two.Write) {
		t.Errorf("an argument changed: %v, %v", x, y)
	}
	for _, l := range [][]api.Path{x.Read, x.Write, y.Read, y.Write} {
		wood.BlotAll(l)
	}
	for i, p := range again {
		if !same(p, first[i]) {
			t.Errorf("answer %d shares memory: %v", i, p)
		}
	}
}
