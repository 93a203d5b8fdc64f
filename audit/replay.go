package audit

import (
	"paddock/api"
	"paddock/vfs"
)

// rerun is a file system in which calls are made again, and the texts that are still to be appended.
type rerun struct {
	files *vfs.Fs
	left  []string
}

// The answers are a call's error, and whether there was all that it takes.

func (r *rerun) lstat(c api.Call) (api.Errno, bool) {
	_, why := r.files.Lstat(c.Path)
	return why, true
}

func (r *rerun) read(c api.Call) (api.Errno, bool) {
	_, why := r.files.Read(c.Path)
	return why, true
}

func (r *rerun) create(c api.Call) (api.Errno, bool) {
	return r.files.Create(c.Path), true
}

// append takes a text whatever the call answers: one was handed to the call that failed too.
func (r *rerun) append(c api.Call) (api.Errno, bool) {
	if len(r.left) == 0 {
		return api.OK, false
	}
	text := r.left[0]
	r.left = r.left[1:]
	return r.files.Append(c.Path, text), true
}

func (r *rerun) rename(c api.Call) (api.Errno, bool) {
	return r.files.Rename(c.Path, c.To), true
}

// Replay does calls anew in a tree, with what was appended; the number of the first call that answers something else.
func Replay(t api.File, l []api.Call, data []string) (api.File, api.Errno, int) {
	f, why := vfs.New(t, failing(l))
	if why != api.OK {
		return api.File{}, why, 0
	}
	r := &rerun{files: f, left: data}
	known := kinds()
	for i, c := range l {
		if !isCall(c.Kind) {
			return api.File{}, api.ErrReplay, i
		}
		if why, whole := known[c.Kind].again(r, c); !whole || why != c.Why {
			return api.File{}, api.ErrReplay, i
		}
	}
	if len(r.left) > 0 {
		return api.File{}, api.ErrReplay, len(l)
	}
	return f.Tree(), api.OK, 0
}

// failing are the numbers of the calls that a plan let fail.
func failing(l []api.Call) []int {
	var out []int
	for i, c := range l {
		if c.Why == api.ErrFault {
			out = append(out, i)
		}
	}
	return out
}
