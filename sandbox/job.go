package sandbox

import (
	"paddock/api"
	"paddock/gate"
	"paddock/paths"
	"paddock/policy"
	"paddock/program"
	"paddock/script"
	"paddock/vfs"
)

// prepared is a job, ready to be run; or the first thing that is wrong with it.
func prepared(j api.Job) (*run, error) {
	if why := policy.Check(j.Policy); why != api.OK {
		return nil, refused{why: why}
	}
	if len(j.Names) > api.MaxFiles {
		return nil, refused{why: api.ErrMany}
	}
	files, why := vfs.New(j.Tree, j.Faults)
	if why != api.OK {
		return nil, refused{why: why}
	}
	g, why := gate.New(files, j.Policy.Read, j.Policy.Write)
	if why != api.OK {
		return nil, refused{why: why}
	}
	p, err := programOf(j)
	if err != nil {
		return nil, err
	}
	return &run{job: j, files: files, gate: g, program: p}, nil
}

// programOf is the program of a job's script, with one name for each file.
func programOf(j api.Job) (api.Program, error) {
	s, why, flaw := script.Parse(j.Script, j.Options.Extended)
	if why != api.OK {
		return api.Program{}, refused{why, flaw}
	}
	p, why, _ := program.Make(s)
	if why != api.OK {
		return api.Program{}, refused{why: why}
	}
	var all []api.Command
	for i := range p.Steps {
		c := &p.Steps[i].Command
		nameFiles(c)
		all = append(all, *c)
	}
	p.Files = script.Files(api.Script{Commands: all})
	return p, nil
}

// nameFiles puts the names of files in a command into the one form that a file has: so all that is written to one is counted together, however it is spelled.
func nameFiles(c *api.Command) {
	switch c.Name {
	case 'r', 'R', 'w', 'W':
		c.Text = ownName(c.Text)
	case 's':
		c.Subst.File = ownName(c.Subst.File)
	}
}

// ownName is the own text of where a name leads. One that leads nowhere stays as it is told: the gate says what is wrong with it.
func ownName(name string) string {
	p, folder, why := paths.Normal(nil, name)
	if why != api.OK || folder {
		return name
	}
	own, _ := paths.Print(p)
	return own
}
