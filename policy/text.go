package policy

import (
	"strconv"
	"strings"

	"paddock/api"
	"paddock/lines"
	"paddock/paths"
)

// The rules of a line, as Parse tells them.
const (
	ruleWord = 1 + iota
	ruleForm
	ruleMost
	ruleTwice
	rulePath
	ruleMany
)

// The first words of the lines that tell a path.
const (
	wordRead  = "read"
	wordWrite = "write"
)

// reader takes what stands behind a line's first word; the least rule that it breaks (0: none).
type reader func(rest string) int

// Parse reads a policy; the first fault, where there is one.
func Parse(s string) (api.Policy, api.Errno, api.Fault) {
	var p api.Policy
	byWord := readers(&p)
	for i, l := range lines.Split(s) {
		if l.Text == "" || l.Text[0] == '#' {
			continue
		}
		if rule := readLine(byWord, l.Text); rule != 0 {
			return api.Policy{}, api.ErrLine, api.Fault{Line: i + 1, Rule: rule}
		}
	}
	return p, api.OK, api.Fault{}
}

// readers has of each first word what reads its lines, one behind another, into a policy.
func readers(p *api.Policy) map[string]reader {
	out := map[string]reader{
		wordRead:  pathReader(&p.Read),
		wordWrite: pathReader(&p.Write),
	}
	for _, q := range quotas(p) {
		out[q.word] = numberReader(q)
	}
	return out
}

func readLine(byWord map[string]reader, s string) int {
	word, rest, blank := strings.Cut(s, " ")
	read, known := byWord[word]
	if !blank || !known {
		return ruleWord
	}
	return read(rest)
}

// pathReader puts each line's path behind those of the lines ahead.
func pathReader(into *[]api.Path) reader {
	return func(rest string) int {
		text, n, why, _ := lines.Unquote(rest)
		if why != api.OK || n < len(rest) {
			return ruleForm
		}
		p, _, why := paths.Normal(nil, text)
		if why != api.OK || text[0] != '/' {
			return rulePath
		}
		if len(*into) == api.MaxFiles {
			return ruleMany
		}
		*into = append(*into, p)
		return 0
	}
}

// numberReader takes one line, and keeps that it did: a second one breaks a rule.
func numberReader(q quota) reader {
	told := false
	return func(rest string) int {
		if !isNumber(rest) {
			return ruleForm
		}
		n, err := strconv.Atoi(rest)
		if err != nil || n > q.most {
			return ruleMost
		}
		if told {
			return ruleTwice
		}
		told = true
		*q.number = n
		return 0
	}
}

// isNumber tells whether a text is decimal digits without needless noughts.
func isNumber(s string) bool {
	if s == "" || s[0] == '0' && len(s) > 1 {
		return false
	}
	for i := range len(s) {
		if s[i] < '0' || s[i] > '9' {
			return false
		}
	}
	return true
}

// Print writes a policy, as each is written in one way alone.
func Print(p api.Policy) (string, api.Errno) {
	p, why := Normal(p)
	if why != api.OK {
		return "", why
	}
	var out strings.Builder
	printPaths(&out, wordRead, p.Read)
	printPaths(&out, wordWrite, p.Write)
	for _, q := range quotas(&p) {
		printLine(&out, q.word, strconv.Itoa(*q.number))
	}
	return out.String(), api.OK
}

func printPaths(out *strings.Builder, word string, l []api.Path) {
	for _, p := range l {
		text, _ := paths.Print(p)
		printLine(out, word, lines.Quote(text))
	}
}

func printLine(out *strings.Builder, word, rest string) {
	out.WriteString(word)
	out.WriteByte(' ')
	out.WriteString(rest)
	out.WriteByte('\n')
}
