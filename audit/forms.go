package audit

import (
	"strconv"
	"strings"

	"paddock/api"
	"paddock/lines"
	"paddock/paths"
)

// The rules of a line, as Read tells them.
const (
	ruleEnd = 1 + iota
	ruleHead
	ruleForm
	rulePath
	ruleNoughts
)

const (
	blank   = " "
	denied  = "deny"
	nowhere = "-" // what stands for a path where there is none
	digits  = 3   // of an error, at most
)

// words joins words with one blank between; an empty last one leaves the blank ahead of it at the end.
func words(l ...string) string {
	return strings.Join(l, blank)
}

// field is a word of a line that says something of an entry: how it is written; what it says and how many bytes that takes, where such a word stands at a text's beginning; how an entry is made to have that, and the rule that it breaks (0: none).
type field struct {
	write func(e api.Entry) string
	take  func(s string) (string, int, bool)
	keep  func(e *api.Entry, said string) int
}

// shape is which entries of a kind are right, and the fields of their lines.
type shape struct {
	right  func(e api.Entry) bool
	fields []field
}

// form is the shape of entries, and the words that their lines begin with, each with a blank behind (none: there are no such entries).
type form struct {
	head string
	shape
}

// table has the form of entries at the places of their Deny and their call's kind.
type table [api.DenyCount][api.CallCount]form

func forms() *table {
	var out table
	known := kinds()
	for kind := api.CallLstat; kind <= api.CallRename; kind++ {
		out[api.DenyNone][kind] = form{words(known[kind].word, ""), known[kind].shape}
	}
	why := reasons()
	for deny := api.DenyPath; deny <= api.DenyExec; deny++ {
		r := why[deny]
		for kind := r.first; kind <= r.last; kind++ {
			out[deny][kind] = form{words(denied, r.word, known[kind].word, ""), r.shape}
		}
	}
	return &out
}

// reason is why something is denied: its word, the kinds of call that go with it, the shape of its entries.
type reason struct {
	word        string
	first, last api.CallKind
	shape       shape
}

func reasons() [api.DenyCount]reason {
	at := shape{rightDenied, []field{pathField(), textField()}}
	none := shape{rightNowhere, []field{nowhereField(), textField()}}
	return [api.DenyCount]reason{
		api.DenyPath:   {"path", api.CallRead, api.CallRename, none},
		api.DenyPrefix: {"prefix", api.CallRead, api.CallRename, at},
		api.DenyHold:   {"hold", api.CallRename, api.CallRename, at},
		api.DenyLink:   {"link", api.CallRead, api.CallRename, at},
		api.DenyExec:   {"exec", api.CallExec, api.CallExec, none},
	}
}

func pathField() field {
	return field{
		write: func(e api.Entry) string { return quotedPath(e.Call.Path) },
		take:  takeQuoted,
		keep:  func(e *api.Entry, said string) int { return keepPath(&e.Call.Path, said) },
	}
}

func toField() field {
	return field{
		write: func(e api.Entry) string { return quotedPath(e.Call.To) },
		take:  takeQuoted,
		keep:  func(e *api.Entry, said string) int { return keepPath(&e.Call.To, said) },
	}
}

func quotedPath(p api.Path) string {
	own, _ := paths.Print(p)
	return lines.Quote(own)
}

func takeQuoted(s string) (string, int, bool) {
	said, n, why, _ := lines.Unquote(s)
	return said, n, why == api.OK
}

// keepPath takes a path's own text alone: other texts lead to the path too, but are not how it is written.
func keepPath(into *api.Path, said string) int {
	p, _, why := paths.Normal(nil, said)
	if why != api.OK {
		return rulePath
	}
	if own, _ := paths.Print(p); own != said {
		return rulePath
	}
	*into = p
	return 0
}

func whyField() field {
	return field{
		write: func(e api.Entry) string { return strconv.Itoa(int(e.Call.Why)) },
		take:  takeDigits,
		keep:  keepWhy,
	}
}

func takeDigits(s string) (string, int, bool) {
	n := 0
	for n < len(s) && n < digits && '0' <= s[n] && s[n] <= '9' {
		n++
	}
	return s[:n], n, n > 0
}

func keepWhy(e *api.Entry, said string) int {
	why, _ := strconv.Atoi(said)
	if strconv.Itoa(why) != said {
		return ruleNoughts
	}
	e.Call.Why = api.Errno(why)
	return 0
}

func nowhereField() field {
	return field{
		write: func(api.Entry) string { return nowhere },
		take: func(s string) (string, int, bool) {
			return "", len(nowhere), strings.HasPrefix(s, nowhere)
		},
		keep: func(*api.Entry, string) int { return 0 },
	}
}

func textField() field {
	return field{
		write: func(e api.Entry) string { return lines.Quote(e.Text) },
		take:  takeQuoted,
		keep: func(e *api.Entry, said string) int {
			e.Text = said
			return 0
		},
	}
}
