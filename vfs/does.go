package vfs

import "paddock/api"

func (f *Fs) lstat(r request) answer {
	at, why := f.root.walk(r.path, false)
	if why != api.OK {
		return answer{why: why}
	}
	if at.file == nil {
		return answer{why: api.ErrNoFile}
	}
	return answer{stat: api.Stat{Kind: at.file.kind, Size: len(at.file.text())}}
}

// text is where a path leads, links and all, if a text is there.
func (f *Fs) text(p api.Path) (*node, api.Errno) {
	at, why := f.root.walk(p, true)
	switch {
	case why != api.OK:
		return nil, why
	case at.file == nil:
		return nil, api.ErrNoFile
	case at.file.kind == api.FileDir:
		return nil, api.ErrDir
	}
	return at.file, api.OK
}

func (f *Fs) read(r request) answer {
	n, why := f.text(r.path)
	if why != api.OK {
		return answer{why: why}
	}
	return answer{data: n.text()}
}

func (f *Fs) append(r request) answer {
	n, why := f.text(r.path)
	if why == api.OK {
		n.grow(r.data)
	}
	return answer{why: why}
}

func (f *Fs) create(r request) answer {
	at, why := f.root.walk(r.path, true)
	if why != api.OK {
		return answer{why: why}
	}
	if at.isFolder() {
		return answer{why: api.ErrDir}
	}
	at.put(&node{kind: api.FileText})
	return answer{}
}

func (f *Fs) rename(r request) answer {
	from, why := f.root.walk(r.path, false)
	if why != api.OK {
		return answer{why: why}
	}
	if from.file == nil {
		return answer{why: api.ErrNoFile}
	}
	if from.isFolder() {
		return answer{why: api.ErrDir}
	}
	to, why := f.root.walk(r.to, false)
	if why != api.OK {
		return answer{why: why}
	}
	if to.isFolder() {
		return answer{why: api.ErrDir}
	}
	// Taken away first: where both are one, it is put back.
	from.drop()
	to.put(from.file)
	return answer{}
}
