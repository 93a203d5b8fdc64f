package audit

import (
	"strings"

	"paddock/api"
	"paddock/lines"
)

// of is the form of an entry; false: there are no such entries.
func (t *table) of(e api.Entry) (form, bool) {
	if e.Deny >= api.DenyCount || e.Call.Kind >= api.CallCount {
		return form{}, false
	}
	f := t[e.Deny][e.Call.Kind]
	return f, f.head != ""
}

func (t *table) right(e api.Entry) bool {
	f, known := t.of(e)
	return known && f.right(e)
}

// Print writes a log.
func Print(l []api.Entry) (string, api.Errno) {
	t := forms()
	var out strings.Builder
	for _, e := range l {
		f, known := t.of(e)
		if !known || !f.right(e) {
			return "", api.ErrAudit
		}
		out.WriteString(f.print(e))
		out.WriteByte('\n')
	}
	return out.String(), api.OK
}

// print is the line of an entry.
func (f form) print(e api.Entry) string {
	var said []string
	for _, x := range f.fields {
		said = append(said, x.write(e))
	}
	return f.head + words(said...)
}

// Read reads a log; the first fault, where there is one.
func Read(s string) ([]api.Entry, api.Errno, api.Fault) {
	t := forms()
	var out []api.Entry
	for i, l := range lines.Split(s) {
		e, rule := t.read(l)
		if rule != 0 {
			return nil, api.ErrAudit, api.Fault{Line: i + 1, Rule: rule}
		}
		out = append(out, e)
	}
	return out, api.OK, api.Fault{}
}

// read is the entry that a line tells, or the least rule that it breaks.
func (t *table) read(l api.Line) (api.Entry, int) {
	if !l.Whole {
		return api.Entry{}, ruleEnd
	}
	e, known := t.begun(l.Text)
	if !known {
		return api.Entry{}, ruleHead
	}
	f, _ := t.of(e)
	said, whole := f.cut(l.Text[len(f.head):])
	if !whole {
		return api.Entry{}, ruleForm
	}
	// An error's number stands behind the paths, as its rule does: so the first field that breaks a rule breaks the least one.
	for i, x := range f.fields {
		if rule := x.keep(&e, said[i]); rule != 0 {
			return api.Entry{}, rule
		}
	}
	return e, 0
}

// begun is an entry with what a line's first words tell of it; false: they are none.
func (t *table) begun(s string) (api.Entry, bool) {
	for deny, row := range t {
		for kind, f := range row {
			if f.head != "" && strings.HasPrefix(s, f.head) {
				return api.Entry{Call: api.Call{Kind: api.CallKind(kind)}, Deny: api.DenyKind(deny)}, true
			}
		}
	}
	return api.Entry{}, false
}

// cut is what each field of a line says; false: other words stand there.
func (f form) cut(s string) ([]string, bool) {
	var out []string
	for i, x := range f.fields {
		between := i == 0
		if !between {
			s, between = strings.CutPrefix(s, blank)
		}
		said, n, ok := x.take(s)
		if !between || !ok {
			return nil, false
		}
		out = append(out, said)
		s = s[n:]
	}
	return out, s == ""
}
