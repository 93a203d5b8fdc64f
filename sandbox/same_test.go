package sandbox_test

import (
	"reflect"
	"testing"

	"paddock/api"
	"paddock/marsh"
	"paddock/sandbox"
	"paddock/wood"
)

// full is an outcome of which no field is zero.
func full() api.Outcome {
	c := api.Call{Kind: api.CallRename, Path: api.Path{"a", "b"}, To: api.Path{"c"}, Why: 7}
	return api.Outcome{
		Why: 1, Flaw: api.Flaw{At: 2, Rule: 3}, Out: "out", Code: 4, Stop: api.StopExec, Error: 5, Message: "message", Steps: 6, Cost: 7, Peak: 8,
		Log:   []api.Entry{{Call: c, Deny: api.DenyHold, Text: "text"}, {Call: c}},
		Trace: []api.Call{c, {Kind: api.CallRead}, c},
		Tree:  wood.Dir("root", wood.Dir("d", wood.Text("f", "data"), wood.Link("l", "f")), wood.Text("g", "more")),
	}
}

// turned hands on the value with each of its parts turned into another one, one at a time.
func turned(v reflect.Value, path string, hand func(path string)) {
	switch v.Kind() {
	case reflect.String:
		was := v.String()
		for _, s := range []string{"", was + "x", "x" + was} {
			if v.SetString(s); s != was {
				hand(path)
			}
		}
		v.SetString(was)
	case reflect.Int:
		v.SetInt(v.Int() + 1)
		hand(path)
		v.SetInt(v.Int() - 1)
	case reflect.Uint8:
		v.SetUint(v.Uint() + 1)
		hand(path)
		v.SetUint(v.Uint() - 1)
	case reflect.Struct:
		for i := range v.NumField() {
			turned(v.Field(i), path+"."+v.Type().Field(i).Name, hand)
		}
	case reflect.Slice:
		was := reflect.ValueOf(v.Interface())
		v.Set(reflect.Append(was, reflect.Zero(v.Type().Elem())))
		hand(path + " one more")
		if was.Len() > 0 {
			v.Set(was.Slice(0, was.Len()-1))
			hand(path + " one less")
		}
		v.Set(was)
		for i := range was.Len() {
			turned(v.Index(i), path+"[]", hand)
		}
	default:
		panic("a kind of field that is not known: " + path)
	}
}

// 25.2: each part counts, in all lists.
func TestSame(t *testing.T) {
	if !sandbox.Same(full(), full()) || !sandbox.Same(api.Outcome{}, api.Outcome{}) || sandbox.Same(full(), api.Outcome{}) || sandbox.Same(api.Outcome{}, full()) {
		t.Error("full and empty ones")
	}
	parts := map[string]bool{}
	o, want := full(), full()
	turned(reflect.ValueOf(&o).Elem(), "", func(path string) {
		parts[path] = true
		if sandbox.Same(o, want) || sandbox.Same(want, o) {
			t.Errorf("%s does not count", path)
		}
	})
	if !sandbox.Same(o, want) {
		t.Error("the test leaves what it has turned")
	}
	for _, path := range []string{".Why", ".Flaw.At", ".Flaw.Rule", ".Out", ".Code", ".Stop", ".Error", ".Message", ".Steps", ".Cost", ".Peak", ".Log one less", ".Log[].Deny", ".Log[].Text", ".Log[].Call.Kind", ".Log[].Call.Path[]", ".Log[].Call.To one more",
		".Log[].Call.Why", ".Trace one more", ".Trace[].Path one less", ".Trace[].To[]", ".Trace[].Why", ".Trace[].Kind", ".Tree.Name", ".Tree.Kind", ".Tree.Data", ".Tree.Files one more", ".Tree.Files[].Files[].Data", ".Tree.Files[].Files[].Kind", ".Tree.Files[].Name"} {
		if !parts[path] {
			t.Error("not turned:", path)
		}
	}
	// Two that have changed places.
	o = full()
	o.Trace[0], o.Trace[1] = o.Trace[1], o.Trace[0]
	if sandbox.Same(o, want) {
		t.Error("the order of calls does not count")
	}
	o = full()
	o.Tree.Files[0], o.Tree.Files[1] = o.Tree.Files[1], o.Tree.Files[0]
	if sandbox.Same(o, want) {
		t.Error("the order of files does not count")
	}
}

// 25.2: nil and empty lists are alike.
func TestSameEmpty(t *testing.T) {
	empty := func(p api.Path) api.Outcome {
		c := api.Call{Kind: api.CallRead, Path: p, To: p}
		return api.Outcome{Log: []api.Entry{{Call: c}}, Trace: []api.Call{c}, Tree: api.File{Kind: api.FileDir, Files: []api.File{{Name: "f"}}}}
	}
	a, b := empty(nil), empty(api.Path{})
	b.Tree.Files[0].Files = []api.File{}
	if !sandbox.Same(a, b) || !sandbox.Same(b, a) {
		t.Error("empty paths and folders")
	}
	if !sandbox.Same(api.Outcome{}, api.Outcome{Log: []api.Entry{}, Trace: []api.Call{}, Tree: api.File{Files: []api.File{}}}) {
		t.Error("empty lists")
	}
}

// P1: hand-made jobs of any kind end.
func TestHandMade(t *testing.T) {
	if o := sandbox.Run(api.Job{}); !sandbox.Same(o, api.Outcome{Why: api.ErrTree, Code: 1, Message: "job code 30"}) {
		t.Error("an empty job:", marsh.ShowOutcome(o))
	}
	if o := sandbox.Run(api.Job{Tree: wood.Root()}); !sandbox.Same(o, api.Outcome{Tree: wood.Root()}) {
		t.Error("a job without a quota, and without input:", marsh.ShowOutcome(o))
	}
	if o := sandbox.Run(api.Job{Tree: wood.Root(), Input: "\n"}); !sandbox.Same(o, api.Outcome{Tree: wood.Root(), Code: 4, Stop: api.StopOutput, Message: "exhausted output"}) {
		t.Error("a job without a quota:", marsh.ShowOutcome(o))
	}
	if o := sandbox.Run(api.Job{Tree: wood.Root(), Input: "a"}); !sandbox.Same(o, api.Outcome{Tree: wood.Root(), Code: 4, Stop: api.StopMemory, Message: "exhausted memory"}) {
		t.Error("a job without a quota:", marsh.ShowOutcome(o))
	}
	deep := wood.Text("x", "")
	for range 1 << 12 {
		deep = wood.Dir("x", deep)
	}
	if o := sandbox.Run(api.Job{Tree: deep}); o.Why != api.ErrTree {
		t.Error("a deep tree:", o.Why)
	}
	a, b := api.Outcome{Tree: deep}, api.Outcome{Tree: deep}
	if !sandbox.Same(a, b) {
		t.Error("a deep tree is not itself")
	}
}
