package gate

import (
	"slices"

	"paddock/api"
	"paddock/paths"
)

// request is what is asked for: the kind of its call, its paths as they are told; whether it may not move what stands at a path; what it does at the normal paths (to: of Rename).
type request struct {
	kind  api.CallKind
	texts []string
	held  func(p api.Path) bool
	does  func(p, to api.Path) api.Errno
}

// movesNone is what is held by a request that moves nothing.
func movesNone(api.Path) bool { return false }

// Read asks for all of a text.
func (g *Gate) Read(s string) (string, api.Errno) {
	data := ""
	why := g.ask(request{
		kind:  api.CallRead,
		texts: []string{s},
		held:  movesNone,
		does: func(p, _ api.Path) (why api.Errno) {
			data, why = g.files.Read(p)
			return why
		},
	})
	return data, why
}

// Create asks for an empty text at a path.
func (g *Gate) Create(s string) api.Errno {
	return g.ask(request{
		kind:  api.CallCreate,
		texts: []string{s},
		held:  movesNone,
		does:  func(p, _ api.Path) api.Errno { return g.files.Create(p) },
	})
}

// Append asks for bytes behind those of a text.
func (g *Gate) Append(s, data string) api.Errno {
	return g.ask(request{
		kind:  api.CallAppend,
		texts: []string{s},
		held:  movesNone,
		does:  func(p, _ api.Path) api.Errno { return g.files.Append(p, data) },
	})
}

// Rename asks for a text to be moved.
func (g *Gate) Rename(s, to string) api.Errno {
	return g.ask(request{
		kind:  api.CallRename,
		texts: []string{s, to},
		held:  func(p api.Path) bool { return anyWithin(g.read, p) || anyWithin(g.write, p) },
		does:  func(p, to api.Path) api.Errno { return g.files.Rename(p, to) },
	})
}

func anyWithin(prefixes []api.Path, p api.Path) bool {
	return slices.ContainsFunc(prefixes, func(prefix api.Path) bool { return paths.Within(prefix, p) })
}

// Exec asks for a command: it is denied.
func (g *Gate) Exec(command string) api.Errno {
	if why := g.closed(); why != api.OK {
		return why
	}
	return g.deny(api.CallExec, end{text: command}, api.DenyExec)
}

// closed is the error of a gate that is asked for nothing any more.
func (g *Gate) closed() api.Errno {
	switch {
	case g == nil:
		return api.ErrNil
	case g.shut():
		return api.ErrDenied
	}
	return api.OK
}

// ask is the one way to every call: so none is made that is not looked at ahead, or that the log does not have.
func (g *Gate) ask(r request) api.Errno {
	if why := g.closed(); why != api.OK {
		return why
	}
	var ends [2]end
	for i, s := range r.texts {
		e, deny := g.measure(r, s)
		if deny != api.DenyNone {
			return g.deny(r.kind, e, deny)
		}
		ends[i] = e
	}
	for _, e := range ends[:len(r.texts)] {
		if why := g.lookThrough(r.kind, e); why != api.OK {
			return why
		}
	}
	p, to := ends[0].path, ends[1].path
	return g.note(api.Call{Kind: r.kind, Path: p, To: to, Why: r.does(p, to)})
}

// end is a path of a request: as it is told, its normal form, how many names of that are its prefix's.
type end struct {
	text   string
	path   api.Path
	prefix int
}

// measure is where a text of a request leads, or why that is denied without a look at any file.
func (g *Gate) measure(r request, s string) (end, api.DenyKind) {
	p, folder, why := paths.Normal(nil, s)
	if why != api.OK || folder {
		return end{text: s}, api.DenyPath
	}
	e := end{text: s, path: p}
	prefix, inside := prefixOf(g.prefixes(r.kind), p)
	if !inside {
		return e, api.DenyPrefix
	}
	if r.held(p) {
		return e, api.DenyHold
	}
	e.prefix = len(prefix)
	return e, api.DenyNone
}

// prefixes are those that count for a kind of call.
func (g *Gate) prefixes(kind api.CallKind) []api.Path {
	if kind == api.CallRead {
		return g.read
	}
	return g.write
}

// prefixOf is the one that a path lies within; false: none.
func prefixOf(prefixes []api.Path, p api.Path) (api.Path, bool) {
	for _, prefix := range prefixes {
		if paths.Within(p, prefix) {
			return prefix, true
		}
	}
	return nil, false
}

// lookThrough goes from a path's prefix to the path, a name more each time. Where nothing stands, no link can stand below: the call itself says what that means.
func (g *Gate) lookThrough(kind api.CallKind, e end) api.Errno {
	for n := e.prefix + 1; n <= len(e.path); n++ {
		at := e.path[:n]
		stat, why := g.files.Lstat(at)
		g.note(api.Call{Kind: api.CallLstat, Path: at, Why: why})
		switch {
		case why == api.ErrNoFile:
			return api.OK
		case why != api.OK:
			return why
		case stat.Kind == api.FileLink:
			return g.deny(kind, e, api.DenyLink)
		}
	}
	return api.OK
}

// note writes down a call that was made; what it answered.
func (g *Gate) note(c api.Call) api.Errno {
	g.log = append(g.log, api.Entry{Call: c})
	return c.Why
}

// deny writes down what is denied, which shuts the gate.
func (g *Gate) deny(kind api.CallKind, e end, why api.DenyKind) api.Errno {
	g.log = append(g.log, api.Entry{Call: api.Call{Kind: kind, Path: e.path}, Deny: why, Text: e.text})
	return api.ErrDenied
}
