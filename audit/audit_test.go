package audit_test

import (
	"slices"
	"strings"
	"testing"

	"paddock/api"
	"paddock/audit"
	"paddock/wood"
)

// call is an entry of a call that was made.
func call(kind api.CallKind, at string, why api.Errno) api.Entry {
	return api.Entry{Call: api.Call{Kind: kind, Path: wood.Path(at), Why: why}}
}

func move(at, to string, why api.Errno) api.Entry {
	return api.Entry{Call: api.Call{Kind: api.CallRename, Path: wood.Path(at), To: wood.Path(to), Why: why}}
}

func denial(deny api.DenyKind, kind api.CallKind, at, text string) api.Entry {
	return api.Entry{Call: api.Call{Kind: kind, Path: wood.Path(at)}, Deny: deny, Text: text}
}

func sameCall(a, b api.Call) bool {
	return a.Kind == b.Kind && a.Why == b.Why && slices.Equal(a.Path, b.Path) && slices.Equal(a.To, b.To)
}

func sameEntry(a, b api.Entry) bool {
	return sameCall(a.Call, b.Call) && a.Deny == b.Deny && a.Text == b.Text
}

func same(a, b []api.Entry) bool { return slices.EqualFunc(a, b, sameEntry) }

// wide is a path whose own text has so many bytes.
func wide(bytes int) api.Path {
	var out api.Path
	for bytes > 0 {
		n := min(bytes, api.MaxName+1)
		if bytes-n == 1 {
			n-- // a name has one byte at least
		}
		out = append(out, strings.Repeat("w", n-1))
		bytes -= n
	}
	return out
}

// manyPaths are right ones, and others behind them.
func manyPaths() ([]api.Path, []api.Path) {
	return []api.Path{nil, {}, {"a"}, {"a", "b"}, {"..."}, {"-"}, {" \"\\\n\xff"}, wide(api.MaxPath), {strings.Repeat("n", api.MaxName)}},
		[]api.Path{{""}, {"."}, {".."}, {"a", ".."}, {"a/b"}, {"\x00"}, wide(api.MaxPath + 1), {strings.Repeat("n", api.MaxName+1)}}
}

// isRight is a second reading of what a right entry is.
func isRight(e api.Entry, path, to bool) bool {
	four := e.Call.Kind == api.CallRead || e.Call.Kind == api.CallCreate || e.Call.Kind == api.CallAppend || e.Call.Kind == api.CallRename
	nothing := e.Call.Why == 0 && len(e.Call.To) == 0
	switch e.Deny {
	case api.DenyNone:
		if e.Text != "" || e.Call.Why < 0 || e.Call.Why > 999 || !path {
			return false
		}
		return e.Call.Kind == api.CallRename && to || (e.Call.Kind == api.CallLstat || four && e.Call.Kind != api.CallRename) && len(e.Call.To) == 0
	case api.DenyExec:
		return nothing && e.Call.Kind == api.CallExec && len(e.Call.Path) == 0
	case api.DenyPath:
		return nothing && four && len(e.Call.Path) == 0
	case api.DenyPrefix, api.DenyLink:
		return nothing && four && path
	case api.DenyHold:
		return nothing && e.Call.Kind == api.CallRename && path
	}
	return false
}

// each goes through entries of all kinds, with what a second reading says of them.
func each(yield func(e api.Entry, right bool)) {
	good, bad := manyPaths()
	all := slices.Concat(good, bad)
	for deny := range 9 {
		for kind := range 10 {
			for i, p := range all {
				for k, q := range all {
					for _, why := range []api.Errno{-1 << 62, -1, 0, 1, 42, 999, 1000, 1 << 62} {
						for _, text := range []string{"", "x", "\n \"-"} {
							e := api.Entry{Call: api.Call{Kind: api.CallKind(kind), Path: p, To: q, Why: why}, Deny: api.DenyKind(deny), Text: text}
							if kind == 9 {
								e.Call.Kind = 255
							}
							if deny == 8 {
								e.Deny = 255
							}
							yield(e, isRight(e, i < len(good), k < len(good)))
						}
					}
				}
			}
		}
	}
}

// P24.1: entries of all kinds, with wrong fields and at the limits.
func TestRight(t *testing.T) {
	count := [2]int{}
	each(func(e api.Entry, right bool) {
		if audit.Right(e) != right {
			t.Fatalf("Right(%v) = %v", e, !right)
		}
		if !right {
			count[0]++
			return
		}
		count[1]++
	})
	if count[0] < 10000 || count[1] < 1000 {
		t.Error("too few entries:", count)
	}
}

// P24.1, P24.7: what is right is written and read again; a log with another entry is not.
func TestPrintEach(t *testing.T) {
	ahead, text := call(api.CallRead, "a", 0), "read \"/a\" 0\n"
	each(func(e api.Entry, right bool) {
		s, why := audit.Print([]api.Entry{ahead, e, ahead})
		if !right {
			if s != "" || why != api.ErrAudit {
				t.Fatalf("Print(%v) = %q, %d", e, s, why)
			}
			return
		}
		mine, none := strings.CutPrefix(s, text)
		mine, some := strings.CutSuffix(mine, text)
		if why != api.OK || !none || !some || strings.Count(mine, "\n") != 1 || !strings.HasSuffix(mine, "\n") {
			t.Fatalf("Print(%v) = %q, %d", e, s, why)
		}
		if l, why, fault := audit.Read(s); why != api.OK || fault != (api.Fault{}) || !same(l, []api.Entry{ahead, e, ahead}) {
			t.Fatalf("Read(Print(%v)) = %v, %d, %v", e, l, why, fault)
		}
	})
}

// P24.1: the words of each form.
func TestPrint(t *testing.T) {
	if s, why := audit.Print(nil); s != "" || why != api.OK {
		t.Errorf("Print(none) = %q, %d", s, why)
	}
	for _, c := range []struct {
		e api.Entry
		s string
	}{
		{call(api.CallLstat, "a z", 31), `lstat "/a/z" 31`},
		{call(api.CallRead, "a b", 0), `read "/a/b" 0`},
		{call(api.CallCreate, "", 40), `create "/" 40`},
		{call(api.CallAppend, "a", 999), `append "/a" 999`},
		{move("a", "b", 0), `rename "/a" "/b" 0`},
		{move("", "", 7), `rename "/" "/" 7`},
		{api.Entry{Call: api.Call{Kind: api.CallRead, Path: api.Path{"a b", "\"\\\t\x00"[:3], "\xff"}}}, `read "/a b/\"\\\t/\377" 0`},
		{denial(api.DenyPrefix, api.CallRead, "s", "a/../s"), `deny prefix read "/s" "a/../s"`},
		{denial(api.DenyPrefix, api.CallCreate, "", "x\n"), `deny prefix create "/" "x\n"`},
		{denial(api.DenyPath, api.CallRead, "", ""), `deny path read - ""`},
		{denial(api.DenyPath, api.CallAppend, "", "a/"), `deny path append - "a/"`},
		{denial(api.DenyHold, api.CallRename, "a", "./a"), `deny hold rename "/a" "./a"`},
		{denial(api.DenyLink, api.CallRename, "a c", "a/c"), `deny link rename "/a/c" "a/c"`},
		{denial(api.DenyExec, api.CallExec, "", "ls"), `deny exec exec - "ls"`},
	} {
		if s, why := audit.Print([]api.Entry{c.e}); s != c.s+"\n" || why != api.OK {
			t.Errorf("Print(%v) = %q, %d, not %q", c.e, s, why, c.s)
		}
		if !audit.Right(c.e) {
			t.Errorf("%v is not right", c.e)
		}
	}
}

// P24.3: of any entries, right or not, in order.
func TestTraceAndDenials(t *testing.T) {
	if audit.Trace(nil) != nil || audit.Denials(nil) != nil {
		t.Error("of no entries")
	}
	var l, denials []api.Entry
	var calls []api.Call
	each(func(e api.Entry, right bool) {
		l = append(l, e)
		if e.Deny == api.DenyNone {
			calls = append(calls, e.Call)
		} else {
			denials = append(denials, e)
		}
	})
	if got := audit.Trace(l); !slices.EqualFunc(got, calls, sameCall) {
		t.Error("Trace")
	}
	if got := audit.Denials(l); !same(got, denials) || len(denials)+len(calls) != len(l) {
		t.Error("Denials")
	}
}

// roomy is the same entry with spare room, full of marks, in its paths.
func roomy(e api.Entry) api.Entry {
	l := wood.Roomy([]api.Path{e.Call.Path, e.Call.To})
	e.Call.Path, e.Call.To = l[0], l[1]
	return e
}

// blot writes over all memory that entries have.
func blot(l []api.Entry) {
	for i := range l[:cap(l)] {
		e := &l[:cap(l)][i]
		wood.Blot(e.Call.Path)
		wood.Blot(e.Call.To)
		*e = api.Entry{Text: "blot"}
	}
}

// someLog has an entry of each form, in new memory.
func someLog() []api.Entry {
	return []api.Entry{
		call(api.CallLstat, "a z", 31), call(api.CallRead, "a b", 0), call(api.CallCreate, "n", 0), call(api.CallAppend, "n", 42), move("n", "a b", 0),
		denial(api.DenyPrefix, api.CallRead, "s", "s"), denial(api.DenyLink, api.CallAppend, "a c", "a/c"), denial(api.DenyHold, api.CallRename, "a", "a"),
		denial(api.DenyPath, api.CallCreate, "", "/"), denial(api.DenyExec, api.CallExec, "", "ls"), move("a", "b", 1),
	}
}

// P24.6: what is handed in is not changed; answers share no memory with it, with one another, or within.
func TestMemory(t *testing.T) {
	want := someLog()
	for name, ask := range map[string]func(l []api.Entry) []api.Entry{
		"Trace": func(l []api.Entry) (out []api.Entry) {
			for _, c := range audit.Trace(l) {
				out = append(out, api.Entry{Call: c})
			}
			return out
		},
		"Denials": audit.Denials,
		"Read and Print": func(l []api.Entry) []api.Entry {
			s, _ := audit.Print(l)
			out, _, _ := audit.Read(s)
			return out
		},
	} {
		var l []api.Entry
		for _, e := range want {
			l = append(l, roomy(e))
		}
		l = append(l, api.Entry{Text: "mark"})[:len(want)]
		first, second := ask(l), ask(l)
		if !same(l, want) || l[:len(want)+1][len(want)].Text != "mark" || !same(first, second) || len(first) == 0 {
			t.Fatalf("%s changes what it is handed", name)
		}
		for _, e := range l {
			for _, p := range []api.Path{e.Call.Path, e.Call.To} {
				if !slices.Equal(p[len(p):len(p)+2], wood.Path("mark mark")) {
					t.Fatalf("%s writes behind a path: %q", name, p[:cap(p)])
				}
			}
		}
		for i := range first {
			before := slices.Clone(first[i+1:])
			wood.Blot(first[i].Call.Path)
			if slices.Contains(first[i].Call.To, "blot") {
				t.Fatalf("%s: both paths of an entry share memory", name)
			}
			wood.Blot(first[i].Call.To)
			if !same(before, second[i+1:]) {
				t.Fatalf("%s: two entries share memory", name)
			}
		}
		blot(first)
		if !same(l, want) {
			t.Fatalf("%s hands out what it was handed", name)
		}
		blot(l)
		if third := ask(want); !same(second, third) {
			t.Fatalf("%s: answers have changed", name)
		}
	}
}

// P3: an answer does not hang on nil or empty lists.
func TestNilAndEmpty(t *testing.T) {
	a := api.Entry{Call: api.Call{Kind: api.CallRead}}
	b := api.Entry{Call: api.Call{Kind: api.CallRead, Path: api.Path{}, To: api.Path{}}}
	if !audit.Right(a) || !audit.Right(b) {
		t.Error("Right")
	}
	s, _ := audit.Print([]api.Entry{a, b})
	if s != "read \"/\" 0\nread \"/\" 0\n" {
		t.Errorf("%q", s)
	}
	if l, why, fault := audit.Read(""); len(l) != 0 || why != api.OK || fault != (api.Fault{}) {
		t.Error(l, why, fault)
	}
	if !slices.EqualFunc(audit.Trace([]api.Entry{a, b}), []api.Call{b.Call, a.Call}, sameCall) {
		t.Error("Trace")
	}
}
