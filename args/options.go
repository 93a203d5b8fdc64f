package args

import (
	"slices"
	"strings"

	"paddock/api"
)

// valued is whether a value goes with an option.
type valued int

const (
	bare   valued = iota // there is none
	suffix               // what stands right behind it, if anything does
	needed               // what stands right behind it, or, where that is nothing, the next argument
)

// option is one of the options: the letters and the long names that stand for it, and what it does (false: its value may not be).
type option struct {
	letters string
	names   []string
	value   valued
	does    func(x *api.Argv, value string) bool
}

func options() []option {
	return []option{
		{"n", []string{"quiet", "silent"}, bare, sets(func(o *api.Options) { o.Quiet = true })},
		{"Er", []string{"regexp-extended"}, bare, sets(func(o *api.Options) { o.Extended = true })},
		{"s", []string{"separate"}, bare, sets(func(o *api.Options) { o.Separate = true })},
		{"e", []string{"expression"}, needed, piece(false)},
		{"f", []string{"file"}, needed, piece(true)},
		{"i", []string{"in-place"}, suffix, editInPlace},
	}
}

func sets(set func(o *api.Options)) func(*api.Argv, string) bool {
	return func(x *api.Argv, _ string) bool {
		set(&x.Options)
		return true
	}
}

// piece adds a piece of the script.
func piece(file bool) func(*api.Argv, string) bool {
	return func(x *api.Argv, text string) bool {
		x.Scripts = append(x.Scripts, api.Source{File: file, Text: text})
		return true
	}
}

func editInPlace(x *api.Argv, value string) bool {
	x.Options.InPlace, x.Options.Separate, x.Options.Suffix = true, true, value
	return maySuffix(value)
}

// reading goes through arguments from the left on. Where one of its steps answers false, the argument that it stands at is at fault.
type reading struct {
	list  []string
	at    int
	known []option
	argv  api.Argv
}

// Read reads arguments; the number of the argument at fault, where there is one.
func Read(l []string) (api.Argv, api.Errno, int) {
	if len(l) > api.MaxArgs {
		return api.Argv{}, api.ErrMany, 0
	}
	r := &reading{list: l, known: options()}
	if !r.options() || !r.operands() {
		return api.Argv{}, api.ErrUsage, r.at
	}
	return r.argv, api.OK, 0
}

// options reads all arguments ahead of the operands.
func (r *reading) options() bool {
	for ; r.at < len(r.list); r.at++ {
		s := r.list[r.at]
		if s == endOfOptions {
			r.at++
			return true
		}
		rest, dashed := strings.CutPrefix(s, "-")
		if !dashed || rest == "" {
			return true
		}
		if !r.option(rest) {
			return false
		}
	}
	return true
}

// option reads what an argument has behind its first byte.
func (r *reading) option(s string) bool {
	if name, long := strings.CutPrefix(s, "-"); long {
		return r.long(name)
	}
	return r.letters(s)
}

// letters reads options one behind the other; what stands behind one that takes a value is no letter any more.
func (r *reading) letters(s string) bool {
	for s != "" {
		letter := s[:1]
		s = s[1:]
		i := slices.IndexFunc(r.known, func(o option) bool { return strings.Contains(o.letters, letter) })
		if i < 0 {
			return false
		}
		o, value := r.known[i], ""
		if o.value != bare {
			value, s = s, ""
		}
		if o.value == needed && value == "" {
			if r.at++; r.at == len(r.list) {
				return false
			}
			value = r.list[r.at]
		}
		if !o.does(&r.argv, value) {
			return false
		}
	}
	return true
}

// long reads an option that is spelled out; its value stands in the same argument.
func (r *reading) long(s string) bool {
	name, value, has := strings.Cut(s, "=")
	i := slices.IndexFunc(r.known, func(o option) bool { return slices.Contains(o.names, name) })
	if i < 0 {
		return false
	}
	o := r.known[i]
	if has && o.value == bare || !has && o.value == needed {
		return false
	}
	return o.does(&r.argv, value)
}

// operands reads the arguments that are left: the names, and ahead of them the script, if no option had a piece of it.
func (r *reading) operands() bool {
	if len(r.argv.Scripts) == 0 {
		if r.at == len(r.list) {
			return false
		}
		piece(false)(&r.argv, r.list[r.at])
		r.at++
	}
	r.argv.Names = append(r.argv.Names, r.list[r.at:]...)
	return true
}
