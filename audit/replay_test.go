package audit_test

import (
	"math/rand"
	"slices"
	"testing"

	"paddock/api"
	"paddock/audit"
	"paddock/gate"
	"paddock/trees"
	"paddock/vfs"
	"paddock/wood"
)

// lies is a second reading of whether a path lies within one of a list.
func lies(l []api.Path, p api.Path) bool {
	for _, q := range l {
		if len(q) <= len(p) && slices.Equal(q, p[:len(q)]) {
			return true
		}
	}
	return false
}

// mayBe is a second reading of where a call may lie.
func mayBe(c api.Call, read, write []api.Path) bool {
	switch c.Kind {
	case api.CallLstat:
		return lies(read, c.Path) || lies(write, c.Path)
	case api.CallRead:
		return lies(read, c.Path)
	case api.CallCreate, api.CallAppend:
		return lies(write, c.Path)
	case api.CallRename:
		return lies(write, c.Path) && lies(write, c.To)
	}
	return false
}

// P24.4: each kind, with paths within, beside and above the prefixes, right or not; alone, and behind others.
func TestConfined(t *testing.T) {
	paths := append(wood.Paths("/", "a", "a b", "a b c", "ab", "c"), api.Path{".."}, api.Path{"a", ""})
	lists := [][]api.Path{nil, {}, wood.Paths("a"), wood.Paths("a b", "c"), wood.Paths("/"), wood.Paths("c", "a", "a b"), {{".."}}}
	good := api.Call{Kind: api.CallLstat, Path: wood.Path("a b x")}
	for kind := range 256 {
		for _, p := range paths {
			for _, to := range paths {
				c := api.Call{Kind: api.CallKind(kind), Path: p, To: to, Why: api.Errno(kind)}
				for _, read := range lists {
					for _, write := range lists {
						want := mayBe(c, read, write)
						if ok, at := audit.Confined([]api.Call{c}, read, write); ok != want || at != 0 {
							t.Fatalf("Confined(%v, %q, %q) = %v, %d", c, read, write, ok, at)
						}
						if !mayBe(good, read, write) {
							continue
						}
						ok, at := audit.Confined([]api.Call{good, good, c, {}, good}, read, write)
						if ok || want && at != 3 || !want && at != 2 {
							t.Fatalf("Confined(%v behind others, %q, %q) = %v, %d", c, read, write, ok, at)
						}
					}
				}
			}
			if kind > 9 {
				break
			}
		}
	}
	if ok, at := audit.Confined(nil, nil, nil); !ok || at != 0 {
		t.Error("Confined(no calls):", ok, at)
	}
	if ok, at := audit.Confined([]api.Call{{Kind: api.CallCreate, Path: wood.Path("a n")}}, wood.Paths("a"), nil); ok || at != 0 {
		t.Error("example 3:", ok, at)
	}
}

// P24.6: Confined and Replay leave what they are handed as it was.
func TestHandedIn(t *testing.T) {
	var calls, want []api.Call
	for _, c := range audit.Trace(someLog()) {
		e := roomy(api.Entry{Call: c})
		calls, want = append(calls, e.Call), append(want, c)
	}
	read, write := wood.Roomy(wood.Paths("a", "n")), wood.Roomy(wood.Paths("a b", "n"))
	audit.Confined(calls, read, write)
	if !wood.Untouched(read, wood.Paths("a", "n")) || !wood.Untouched(write, wood.Paths("a b", "n")) || !slices.EqualFunc(calls, want, sameCall) {
		t.Error("Confined has changed what it was handed")
	}
	tree, data := smallTree(), append([]string{"1", "2"}, "mark")[:2]
	calls = []api.Call{
		roomy(call(api.CallAppend, "a b", 0)).Call, roomy(call(api.CallAppend, "a b", api.ErrFault)).Call, roomy(move("a b", "n", 0)).Call,
	}
	want = []api.Call{call(api.CallAppend, "a b", 0).Call, call(api.CallAppend, "a b", api.ErrFault).Call, move("a b", "n", 0).Call}
	got, why, _ := audit.Replay(tree, calls, data)
	again, _, _ := audit.Replay(tree, calls, data)
	if why != api.OK || !trees.Same(tree, smallTree()) || !slices.EqualFunc(calls, want, sameCall) || !slices.Equal(data[:3], []string{"1", "2", "mark"}) {
		t.Error("Replay has changed what it was handed", why)
	}
	wood.Spoil(got)
	if !trees.Same(tree, smallTree()) {
		t.Error("Replay hands out what it was handed")
	}
	wood.Spoil(tree)
	for _, c := range calls {
		wood.Blot(c.Path)
		wood.Blot(c.To)
	}
	if at, _ := trees.Get(again, wood.Path("n")); at.Data != "x1" {
		t.Errorf("an answer has changed: %v", again)
	}
}

// smallTree is that of the chapter's examples, with some links.
func smallTree() api.File {
	return wood.Root(wood.Dir("a", wood.Text("b", "x"), wood.Link("c", "/s"), wood.Dir("d")), wood.Link("l", "a"), wood.Link("m", "m"), wood.Text("s", "secret"))
}

// plainReplay is a second reading of Replay: call by call, each of a kind of its own.
func plainReplay(tree api.File, l []api.Call, data []string) (api.File, api.Errno, int) {
	var plan []int
	for i := range l {
		if l[i].Why == 42 {
			plan = append(plan, i)
		}
	}
	f, why := vfs.New(tree, plan)
	if why != api.OK {
		return api.File{}, api.ErrTree, 0
	}
	appended := 0
	for i, c := range l {
		var got api.Errno
		switch c.Kind {
		case api.CallLstat:
			_, got = f.Lstat(c.Path)
		case api.CallRead:
			_, got = f.Read(c.Path)
		case api.CallCreate:
			got = f.Create(c.Path)
		case api.CallAppend:
			appended++
			if appended > len(data) {
				return api.File{}, api.ErrReplay, i
			}
			got = f.Append(c.Path, data[appended-1])
		case api.CallRename:
			got = f.Rename(c.Path, c.To)
		default:
			return api.File{}, api.ErrReplay, i
		}
		if got != c.Why {
			return api.File{}, api.ErrReplay, i
		}
	}
	if appended < len(data) {
		return api.File{}, api.ErrReplay, len(l)
	}
	return f.Tree(), api.OK, 0
}

// P24.5: the chapter's examples, each error, at its place.
func TestReplay(t *testing.T) {
	read, add := call(api.CallRead, "a b", 0).Call, call(api.CallAppend, "a b", 0).Call
	late := call(api.CallRead, "a b", 31).Call
	fault := call(api.CallRead, "a b", api.ErrFault).Call
	faulty := call(api.CallAppend, "a b", api.ErrFault).Call
	wrong := api.Call{Kind: api.CallRead, Path: api.Path{".."}, Why: api.ErrPath}
	for name, c := range map[string]struct {
		calls []api.Call
		data  []string
		why   api.Errno
		at    int
		b     string // what /a/b has then
	}{
		"nothing":                        {nil, nil, api.OK, 0, "x"},
		"a Read":                         {[]api.Call{read}, nil, api.OK, 0, "x"},
		"another answer":                 {[]api.Call{late}, nil, api.ErrReplay, 0, ""},
		"another answer, later":          {[]api.Call{read, add, late, late}, []string{"y"}, api.ErrReplay, 2, ""},
		"an Append":                      {[]api.Call{add}, []string{"y"}, api.OK, 0, "xy"},
		"Appends":                        {[]api.Call{add, read, add, add}, []string{"1", "", "2"}, api.OK, 0, "x12"},
		"no text":                        {[]api.Call{add}, nil, api.ErrReplay, 0, ""},
		"no further text":                {[]api.Call{read, add, read, add, late}, []string{"y"}, api.ErrReplay, 3, ""},
		"a text is left":                 {[]api.Call{read, add}, []string{"y", "z"}, api.ErrReplay, 2, ""},
		"an empty text is left":          {[]api.Call{read}, []string{""}, api.ErrReplay, 1, ""},
		"a text is left of no calls":     {nil, []string{"y"}, api.ErrReplay, 0, ""},
		"no kind":                        {[]api.Call{read, {}}, nil, api.ErrReplay, 1, ""},
		"a command":                      {[]api.Call{read, {Kind: api.CallExec}}, nil, api.ErrReplay, 1, ""},
		"an unknown kind":                {[]api.Call{read, read, {Kind: api.CallCount}, late}, nil, api.ErrReplay, 2, ""},
		"the last kind":                  {[]api.Call{{Kind: 255}}, nil, api.ErrReplay, 0, ""},
		"a call that failed":             {[]api.Call{fault, read, fault}, nil, api.OK, 0, "x"},
		"an Append that failed":          {[]api.Call{add, faulty, add}, []string{"1", "2", "3"}, api.OK, 0, "x13"},
		"an Append that failed, no text": {[]api.Call{add, faulty}, []string{"1"}, api.ErrReplay, 1, ""},
		"no path":                        {[]api.Call{wrong, read}, nil, api.OK, 0, "x"},
		"no path, and OK":                {[]api.Call{read, {Kind: api.CallRead, Path: api.Path{".."}}}, nil, api.ErrReplay, 1, ""},
		"no path, and a fault":           {[]api.Call{read, {Kind: api.CallRead, Path: api.Path{".."}, Why: api.ErrFault}}, nil, api.ErrReplay, 1, ""},
		// The plan has the numbers in l; what is no call has none in the file system.
		"no path ahead of a fault": {[]api.Call{wrong, read, fault}, nil, api.ErrReplay, 2, ""},
		"a Rename":                 {[]api.Call{call(api.CallCreate, "n", 0).Call, move("n", "a b", 0).Call, add}, []string{"z"}, api.OK, 0, "z"},
		"any error":                {[]api.Call{{Kind: api.CallRead, Path: wood.Path("a b"), Why: -1}}, nil, api.ErrReplay, 0, ""},
		"over a link":              {[]api.Call{call(api.CallAppend, "l b", 0).Call, call(api.CallRead, "m", api.ErrLoop).Call}, []string{"!"}, api.OK, 0, "x!"},
	} {
		got, why, at := audit.Replay(smallTree(), c.calls, c.data)
		if why != c.why || at != c.at {
			t.Errorf("%s: %d at %d, not %d at %d", name, why, at, c.why, c.at)
		}
		if why != api.OK && !trees.Same(got, api.File{}) {
			t.Errorf("%s: a tree beside an error: %v", name, got)
		}
		if b, _ := trees.Get(got, wood.Path("a b")); b.Data != c.b {
			t.Errorf("%s: the file has %q, not %q", name, b.Data, c.b)
		}
	}
}

// P24.5: a tree that may not be, ahead of all else; one at the limit.
func TestReplayTree(t *testing.T) {
	deep := func(n int) api.File {
		tree := wood.Root()
		for range n {
			tree.Files = []api.File{wood.Dir("d", tree.Files...)}
		}
		return tree
	}
	for _, tree := range []api.File{{}, wood.Text("", "x"), wood.Dir("name"), wood.Root(wood.Text("..", "")), wood.Root(wood.Text("b", ""), wood.Text("a", "")), deep(api.MaxNest + 1), deep(3000)} {
		for _, l := range [][]api.Call{nil, {{}}, {{Kind: api.CallAppend}}} {
			if got, why, at := audit.Replay(tree, l, []string{"x"}); why != api.ErrTree || at != 0 || !trees.Same(got, api.File{}) {
				t.Errorf("%.50v: %v, %d, %d", tree, got, why, at)
			}
		}
	}
	if got, why, _ := audit.Replay(deep(api.MaxNest), nil, nil); why != api.OK || !trees.Same(got, deep(api.MaxNest)) {
		t.Error("MaxNest:", why)
	}
}

// history is a file system behind some calls by chance: its first tree, its trace, what was handed to its Appends.
type history struct {
	tree  api.File
	files *vfs.Fs
	data  []string
}

func somePaths() []api.Path {
	return append(wood.Paths("/", "a", "a b", "a b", "a b", "a c", "a d", "a n", "l b", "l n", "m", "s", "n", "n", "x y"), api.Path{".."})
}

// lived makes calls, of which those of the plan fail.
func lived(source *rand.Rand, plan []int) history {
	h := history{tree: smallTree()}
	h.files, _ = vfs.New(h.tree, plan)
	all := somePaths()
	for range source.Intn(30) {
		p, to := all[source.Intn(len(all))], all[source.Intn(len(all))]
		before := h.files.Calls()
		switch source.Intn(6) {
		case 0:
			h.files.Lstat(p)
		case 1:
			h.files.Read(p)
		case 2:
			h.files.Create(p)
		case 3, 4:
			text := string(rune('A' + source.Intn(26)))
			h.files.Append(p, text)
			if h.files.Calls() > before { // else the path was none, and it was no call
				h.data = append(h.data, text)
			}
		case 5:
			h.files.Rename(p, to)
		}
	}
	return h
}

func planned(source *rand.Rand) []int {
	var out []int
	for range source.Intn(4) {
		out = append(out, source.Intn(20)-1)
	}
	return out
}

// holdsReplay holds Replay against its second reading.
func holdsReplay(t *testing.T, tree api.File, l []api.Call, data []string) api.Errno {
	t.Helper()
	got, why, at := audit.Replay(tree, l, data)
	want, no, place := plainReplay(tree, l, data)
	if why != no || at != place || !trees.Same(got, want) {
		t.Fatalf("Replay(%v, %q) = %d at %d, not %d at %d", l, data, why, at, no, place)
	}
	return why
}

// P24.8, P24.5: the run again; and with one call, one error or one text that is another one.
func TestRunAgain(t *testing.T) {
	source := rand.New(rand.NewSource(248))
	count := map[api.Errno]int{}
	for range 5000 {
		h := lived(source, planned(source))
		trace := h.files.Trace()
		got, why, at := audit.Replay(h.tree, trace, h.data)
		if why != api.OK || at != 0 || !trees.Same(got, h.files.Tree()) {
			t.Fatalf("P24.8: Replay(%v, %q) = %d at %d", trace, h.data, why, at)
		}
		for range 8 {
			l, data := slices.Clone(trace), slices.Clone(h.data)
			if len(l) == 0 {
				break
			}
			i := source.Intn(len(l))
			switch source.Intn(8) {
			case 0:
				l[i].Why = []api.Errno{0, api.ErrNoFile, api.ErrNoDir, api.ErrDir, api.ErrFault, api.ErrPath, 1000}[source.Intn(7)]
			case 1:
				l[i].Kind = api.CallKind(source.Intn(9))
			case 2:
				l[i].Path = somePaths()[source.Intn(16)]
			case 3:
				l[i].To = somePaths()[source.Intn(16)]
			case 4:
				l = slices.Delete(l, i, i+1)
			case 5:
				l = slices.Insert(l, i, l[source.Intn(len(l))])
			case 6:
				data = append(data, "more")
			case 7:
				data = data[:source.Intn(len(data)+1)]
			}
			count[holdsReplay(t, h.tree, l, data)]++
		}
	}
	if count[api.OK] < 1000 || count[api.ErrReplay] < 5000 {
		t.Error("too few:", count)
	}
}

// request asks a gate for something by chance; the text that an Append was asked to put.
func request(source *rand.Rand, g *gate.Gate) string {
	names := []string{"a/b", "a/b", "/a/./b", "a/n", "a/n", "a/d", "n", "a/d/n", "a/d/../n", "a/d/z/z", "a/b/z", "a/n"}
	if source.Intn(10) == 0 {
		names = []string{"a/c", "l/b", "s", "", "a/", "a", "m"}
	}
	s, to := names[source.Intn(len(names))], names[source.Intn(len(names))]
	text := string(rune('a' + source.Intn(26)))
	switch source.Intn(25) {
	case 0:
		g.Exec(s)
	case 1, 2, 3, 4:
		g.Read(s)
	case 5, 6, 7, 8, 9:
		g.Create(s)
	case 10, 11, 12, 13:
		g.Rename(s, to)
	default:
		g.Append(s, text)
	}
	return text
}

// P24.9, P24.8, P24.7, P24.10: of a gate's log: its trace is the file system's, is confined, does it all again; all its entries are right, and are read as they are written.
func TestGate(t *testing.T) {
	source := rand.New(rand.NewSource(249))
	prefixes := [][]api.Path{nil, wood.Paths("a"), wood.Paths("a", "n"), wood.Paths("/"), wood.Paths("a d", "a b", "n"), wood.Paths("a n", "s")}
	denied := map[api.DenyKind]int{}
	narrow := 0
	for range 20000 {
		f, _ := vfs.New(smallTree(), planned(source))
		read, write := prefixes[source.Intn(len(prefixes))], prefixes[source.Intn(len(prefixes))]
		g, why := gate.New(f, read, write)
		if why != api.OK {
			t.Fatal(why)
		}
		var data []string
		for range source.Intn(12) {
			before := f.Calls()
			text := request(source, g)
			for _, c := range f.Trace()[before:] {
				if c.Kind == api.CallAppend {
					data = append(data, text)
				}
			}
		}
		log := g.Log()
		trace := audit.Trace(log)
		if !slices.EqualFunc(trace, f.Trace(), sameCall) {
			t.Fatalf("the log's trace is %v, not %v", trace, f.Trace())
		}
		if ok, at := audit.Confined(trace, read, write); !ok || at != 0 {
			t.Fatalf("P24.9: %v: %v at %d", trace, ok, at)
		}
		if ok, _ := audit.Confined(trace, nil, write); !ok {
			narrow++
		}
		if got, why, at := audit.Replay(smallTree(), trace, data); why != api.OK || !trees.Same(got, f.Tree()) {
			t.Fatalf("P24.8: %d at %d", why, at)
		}
		s, why := audit.Print(log)
		back, no, fault := audit.Read(s)
		if why != api.OK || no != api.OK || fault != (api.Fault{}) || !same(back, log) {
			t.Fatalf("P24.7: %q, %d, %v, %d", s, why, back, no)
		}
		l := audit.Denials(log)
		if len(l) > 1 || len(l)+len(trace) != len(log) {
			t.Fatalf("P24.10: %v", log)
		}
		for _, e := range l {
			denied[e.Deny]++
		}
	}
	for deny := api.DenyPath; deny < api.DenyCount; deny++ {
		if denied[deny] < 20 {
			t.Error("too few denials:", denied)
		}
	}
	if narrow < 100 {
		t.Error("nearly nothing was read:", narrow)
	}
}
