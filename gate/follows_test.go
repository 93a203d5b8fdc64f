package gate_test

import (
	"math/rand"
	"slices"
	"strings"
	"testing"

	"paddock/api"
	"paddock/gate"
	"paddock/paths"
	"paddock/trees"
	"paddock/vfs"
	"paddock/wood"
)

// lies tells whether a path lies within one of a list.
func lies(l []api.Path, p api.Path) bool {
	return slices.ContainsFunc(l, func(q api.Path) bool { return begins(p, q) })
}

func begins(p, q api.Path) bool { return len(q) <= len(p) && slices.Equal(q, p[:len(q)]) }

// outer are the paths of a list that lie within no other one.
func outer(l []api.Path) (out []api.Path) {
	for _, p := range l {
		if !slices.ContainsFunc(l, func(q api.Path) bool { return len(q) < len(p) && begins(p, q) }) {
			out = append(out, p)
		}
	}
	return out
}

// model is a gate by the chapter's words, ahead of a file system of its own.
type model struct {
	files       *vfs.Fs
	read, write []api.Path
	log         []api.Entry
	shut        bool
}

func (m *model) deny(e api.Entry) (string, api.Errno) {
	m.log = append(m.log, e)
	m.shut = true
	return "", api.ErrDenied
}

// ask is a request, rule by rule.
func (m *model) ask(a ask) (string, api.Errno) {
	if m.shut {
		return "", api.ErrDenied
	}
	if a.kind == api.CallExec {
		return m.deny(api.Entry{Call: api.Call{Kind: api.CallExec}, Deny: api.DenyExec, Text: a.s})
	}
	prefixes, texts := m.write, []string{a.s}
	if a.kind == api.CallRead {
		prefixes = m.read
	}
	if a.kind == api.CallRename {
		texts = append(texts, a.other)
	}
	var at []api.Path
	for _, s := range texts {
		p, folder, why := paths.Normal(nil, s)
		deny := api.DenyNone
		switch {
		case why != api.OK || folder:
			deny, p = api.DenyPath, nil
		case !lies(prefixes, p):
			deny = api.DenyPrefix
		case a.kind == api.CallRename && slices.ContainsFunc(slices.Concat(outer(m.read), outer(m.write)), func(q api.Path) bool { return begins(q, p) }):
			deny = api.DenyHold
		}
		if deny != api.DenyNone {
			return m.deny(api.Entry{Call: api.Call{Kind: a.kind, Path: p}, Deny: deny, Text: s})
		}
		at = append(at, p)
	}
	for i, p := range at {
		if link, why := m.look(outer(prefixes), p); why != api.OK {
			return "", why
		} else if link {
			return m.deny(api.Entry{Call: api.Call{Kind: a.kind, Path: p}, Deny: api.DenyLink, Text: texts[i]})
		}
	}
	return m.call(a, at)
}

// look tells whether a link is on the way; the error that ends the request, if one does.
func (m *model) look(prefixes []api.Path, p api.Path) (bool, api.Errno) {
	for n := range p {
		if !lies(prefixes, p[:n]) { // so many names and one are still the prefix's, or fewer
			continue
		}
		stat, why := m.files.Lstat(p[:n+1])
		m.log = append(m.log, api.Entry{Call: api.Call{Kind: api.CallLstat, Path: p[:n+1], Why: why}})
		if why == api.ErrNoFile {
			return false, api.OK
		}
		if why != api.OK || stat.Kind == api.FileLink {
			return why == api.OK, why
		}
	}
	return false, api.OK
}

func (m *model) call(a ask, at []api.Path) (data string, why api.Errno) {
	c := api.Call{Kind: a.kind, Path: at[0]}
	switch a.kind {
	case api.CallRead:
		data, why = m.files.Read(at[0])
	case api.CallCreate:
		why = m.files.Create(at[0])
	case api.CallAppend:
		why = m.files.Append(at[0], a.other)
	default:
		c.To = at[1]
		why = m.files.Rename(at[0], at[1])
	}
	c.Why = why
	m.log = append(m.log, api.Entry{Call: c})
	return data, why
}

// woods are trees with many links, and prefixes that may be taken of them.
func woods() []api.File {
	return []api.File{
		tree(), deep(), wood.Root(),
		wood.Root(wood.Dir("a", wood.Dir("b", wood.Text("a", "1"), wood.Link("b", "/a"), wood.Text("c", "")), wood.Link("c", "../b"), wood.Text("d", "2")), wood.Dir("b", wood.Text("a", "3"), wood.Link("b", "a")), wood.Link("c", "a"), wood.Text("d", "4")),
	}
}

// somePlaces are lists of prefixes.
func somePlaces() [][]api.Path {
	return [][]api.Path{nil, here("/"), here("a"), here("b"), here("a", "b"), here("a b"), here("a b", "a"), here("a d", "b"), here("a b a", "b a"), here("d", "a"), here("b z", "a z"), here("w", "a d e")}
}

// spellings are texts that lead to one path, no folder.
func spellings(p api.Path) []string {
	own := wood.Own(p)
	return []string{own, own[1:], "/." + own, strings.ReplaceAll(own, "/", "//"), "z/.." + own, strings.ReplaceAll(own, "/", "/./y/../")[1:], "../.." + own}
}

// someTexts are texts of requests: of most paths over a few names, and such as lead nowhere.
func someTexts() []string {
	names := wood.Path("a b c d e t w z")
	var out []string
	for i, n := range names {
		for j, m := range names {
			p := api.Path{n, m}
			out = append(out, spellings(p)[(i+j)%7], spellings(append(p, names[(i*3+j)%len(names)]))[(i*j)%7])
		}
		out = append(out, spellings(api.Path{n})[i%7])
	}
	return append(out, "", "/", "a/", "a/b/.", "a/..", "a\x00", strings.Repeat("n", 300), "a/d/e/f", "a/d/e/g", "w/in", "w/in/a")
}

// some is a request, by chance: of texts for Read, and of texts for the others.
func some(source *rand.Rand, reads, writes []string) ask {
	kind := api.CallRead + api.CallKind(source.Intn(4))
	if kind == api.CallRead {
		writes = reads
	}
	a := ask{kind: kind, s: writes[source.Intn(len(writes))]}
	switch kind {
	case api.CallAppend:
		a.other = string(rune('a' + source.Intn(26)))
	case api.CallRename:
		a.other = writes[source.Intn(len(writes))]
	}
	return a
}

// among are the texts that lead within one of the prefixes, and over no link of a tree: of the others most are denied at once. Those at which a text stands are there more often.
func among(texts []string, prefixes []api.Path, table map[string]wood.Thing) []string {
	var out []string
	for _, s := range texts {
		p, folder, why := paths.Normal(nil, s)
		if why != api.OK || folder || !lies(prefixes, p) || overLink(table, p) {
			continue
		}
		out = append(out, s)
		if table[wood.Own(p)].Kind == api.FileText {
			out = append(out, slices.Repeat([]string{s}, 15)...)
		}
	}
	if len(out) == 0 {
		return texts
	}
	return out
}

// overLink tells whether a link stands at some first names of a path, all of them too.
func overLink(table map[string]wood.Thing, p api.Path) bool {
	for n := range len(p) + 1 {
		if table[wood.Own(p[:n])].Kind == api.FileLink {
			return true
		}
	}
	return false
}

// checkConfined holds calls against the prefixes and the tree that they were made in.
func checkConfined(t *testing.T, calls []api.Call, before api.File, r, w []api.Path) {
	t.Helper()
	table := wood.Table(before)
	for i, c := range calls {
		var ok bool
		switch c.Kind {
		case api.CallLstat:
			ok = lies(r, c.Path) || lies(w, c.Path)
		case api.CallRead:
			ok = lies(r, c.Path)
		case api.CallCreate, api.CallAppend:
			ok = lies(w, c.Path)
		case api.CallRename:
			ok = lies(w, c.Path) && lies(w, c.To)
		}
		// Only a request's last call may change the tree: so it is that of all of them.
		if !ok || !paths.Right(c.Path) || !paths.Right(c.To) || c.Kind != api.CallLstat && i < len(calls)-1 {
			t.Fatalf("P6.6: %v with %q, %q", c, r, w)
		}
		p := c.Path
		if c.Kind == api.CallLstat && len(p) > 0 { // the last name is what it looks at
			p = p[:len(p)-1]
		}
		if overLink(table, p) || overLink(table, c.To) {
			t.Fatalf("P6.6: %v goes over a link of %v", c, before)
		}
	}
}

// P6.2 to P6.9: long runs of requests, each held against the model; what the file system's own trace and tree say is held against the promises.
func TestRuns(t *testing.T) {
	source := rand.New(rand.NewSource(6))
	texts, places := someTexts(), somePlaces()
	denied, done := map[api.DenyKind]int{}, map[api.CallKind]int{}
	for i := range 5000 {
		first := woods()[i%len(woods())]
		r, w := places[source.Intn(len(places))], places[source.Intn(len(places))]
		var faults []int
		if source.Intn(4) == 0 {
			faults = []int{source.Intn(8), source.Intn(30)}
		}
		f := files(t, first, faults...)
		g, why := gate.New(f, r, w)
		if why == api.ErrLink {
			continue
		}
		m := &model{files: files(t, first, faults...), read: r, write: w}
		table := wood.Table(first)
		reads, writes := among(texts, r, table), among(texts, w, table)
		for range 25 {
			a := some(source, reads, writes)
			switch source.Intn(40) {
			case 0:
				a = command(a.s)
			case 1, 2, 3:
				a = some(source, texts, texts)
			}
			before, calls := f.Tree(), f.Calls()
			data, why := a.of(g)
			want, no := m.ask(a)
			if data != want || why != no || sayAll(g.Log()) != sayAll(m.log) {
				t.Fatalf("%q with %q, %q of %v: %q, %d, not %q, %d\n%s\n%s", a, r, w, before, data, why, want, no, sayAll(g.Log()), sayAll(m.log))
			}
			made := f.Trace()[calls:]
			checkConfined(t, made, before, r, w)
			if why == api.OK {
				done[made[len(made)-1].Kind]++
			}
		}
		checkTrace(t, f, g)
		if e, ok := g.Denied(); ok {
			denied[e.Deny]++
		}
		changed, _ := trees.Changed(first, f.Tree())
		for _, p := range changed {
			if !lies(w, p) {
				t.Fatalf("P6.7: %q changed with %q", p, w)
			}
		}
	}
	// The runs say something only if they come to all of this.
	for deny := api.DenyPath; deny < api.DenyCount; deny++ {
		if denied[deny] < 20 {
			t.Errorf("%s was denied %d times", denials[deny], denied[deny])
		}
	}
	for kind := api.CallRead; kind < api.CallExec; kind++ {
		if done[kind] < 200 {
			t.Errorf("%s was done %d times", kinds[kind], done[kind])
		}
	}
}

// P6.10: what lies within a prefix, and has no link on the way, is let through.
func TestLetsThrough(t *testing.T) {
	for _, first := range woods() {
		for _, l := range somePlaces() {
			if _, why := gate.New(files(t, first), l, l); why != api.OK {
				continue
			}
			table := wood.Table(first)
			kept, _ := trees.List(first)
			for _, k := range kept {
				if overLink(table, k.Path) || !lies(l, k.Path) {
					continue
				}
				own, texts := wood.Own(k.Path), []string{}
				if k.Kind == api.FileDir {
					own += "/new"
				} else {
					texts = append(texts, table[own].Data)
				}
				f := files(t, first)
				g := opened(t, f, l, l)
				for _, want := range texts {
					s, why := g.Read(own)
					trace := f.Trace()
					if c := trace[len(trace)-1]; s != want || why != api.OK || c.Kind != api.CallRead || wood.Own(c.Path) != own {
						t.Fatalf("Read(%q) with %q = %q, %d", own, l, s, why)
					}
				}
				if why := g.Create(own); why != api.OK {
					t.Fatalf("Create(%q) with %q = %d", own, l, why)
				}
				if why := g.Append(own, "new"); why != api.OK {
					t.Fatalf("Append(%q) with %q = %d", own, l, why)
				}
				if now := wood.Table(f.Tree())[own]; now != (wood.Thing{Kind: api.FileText, Data: "new"}) {
					t.Fatalf("%q has %v", own, now)
				}
			}
		}
	}
}

// P6.11: the spelling of a path is seen in no answer, and in the log only where it is told why something was denied.
func TestSpelling(t *testing.T) {
	respelt := func(e []api.Entry) string {
		for i := range e {
			e[i].Text = ""
		}
		return sayAll(e)
	}
	for _, p := range here("a", "a b", "a c", "a d", "a d e f", "a d l f", "a z", "a b z", "s", "z z", "w t") {
		for kind := api.CallRead; kind < api.CallExec; kind++ {
			for _, first := range []api.File{tree(), deep()} {
				ask1 := ask{kind, wood.Own(p), "a/t"}
				g := opened(t, files(t, first), here("a"), here("a", "w"))
				want, why := ask1.of(g)
				for _, s := range spellings(p) {
					f := files(t, first)
					h := opened(t, f, here("a"), here("a", "w"))
					got, no := ask{kind, s, "./a//t"}.of(h)
					if got != want || no != why || respelt(h.Log()) != respelt(g.Log()) {
						t.Errorf("%s of %q: %q, %d, not %q, %d", kinds[kind], s, got, no, want, why)
					}
				}
			}
		}
	}
}
