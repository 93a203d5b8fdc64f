package script

import (
	"strings"

	"paddock/api"
)

const (
	blanks = " \t"
	digits = "0123456789"
)

// reader reads a script from left to right.
type reader struct {
	text     string
	extended bool
	letters  map[byte]letter
	at       int // the byte that is read next
	nest     int // the blocks that are open
	done     []api.Command
}

// giveUp ends the reading: a rule is broken at a place.
func giveUp(at, rule int) { panic(api.Flaw{At: at, Rule: rule}) }

func (r *reader) over() bool { return r.at == len(r.text) }

// next tells whether the next byte is one of some.
func (r *reader) next(of string) bool {
	return !r.over() && strings.IndexByte(of, r.text[r.at]) >= 0
}

// until takes all up to the next of some bytes, or the end.
func (r *reader) until(ends string) string {
	begin := r.at
	for !r.over() && !r.next(ends) {
		r.at++
	}
	return r.text[begin:r.at]
}

// pass goes over all of some bytes that stand next.
func (r *reader) pass(of string) {
	for r.next(of) {
		r.at++
	}
}

// number takes digits, if there are any. A value above MaxNumber is told as one above it, however many digits it has.
func (r *reader) number() (n int, given bool) {
	for r.next(digits) {
		n = min(10*n+int(r.text[r.at]-'0'), api.MaxNumber+1)
		given = true
		r.at++
	}
	return n, given
}

func (r *reader) commands() {
	for r.begin(); !r.over(); r.begin() {
		r.command()
	}
}

// begin goes to where the next command begins.
func (r *reader) begin() {
	r.pass(blanks + "\n;")
	for r.next("#") {
		r.until("\n")
		r.pass(blanks + "\n;")
	}
}

func (r *reader) command() {
	var c api.Command
	c.First, c.Second = r.addresses()
	c.Not = r.not()
	l := r.letter(&c)
	l.read(r, &c)
	r.done = append(r.done, c)
}

// end sees that a command ends here.
func (r *reader) end() {
	r.pass(blanks)
	if !r.over() && !r.next("\n;}#") {
		giveUp(r.at, api.RuleEnd)
	}
}

func (r *reader) not() bool {
	r.pass(blanks)
	if !r.next("!") {
		return false
	}
	r.at++
	r.pass(blanks)
	if r.next("!") {
		giveUp(r.at, api.RuleNot)
	}
	return true
}

// letter takes a command's letter, and tells what that takes.
func (r *reader) letter(c *api.Command) letter {
	c.At = r.at
	if r.over() {
		giveUp(r.at, api.RuleCommand)
	}
	c.Name = r.text[r.at]
	l, told := r.letters[c.Name]
	switch {
	case !told:
		giveUp(r.at, api.RuleCommand)
	case len(r.done) == api.MaxCommand:
		giveUp(r.at, api.RuleCommands)
	case !l.lets(c):
		giveUp(r.at, api.RuleCount)
	}
	r.at++
	return l
}

func (r *reader) addresses() (first, second api.Addr) {
	begin := r.at
	first = r.address()
	if first.Kind == api.AddrNone {
		return first, second
	}
	r.pass(blanks)
	if r.next(",") {
		r.at++
		r.pass(blanks)
		second = r.secondAddress()
	}
	if !mayBeZero(&first, &second) {
		giveUp(begin, api.RuleAddress)
	}
	return first, second
}

// mayBeZero tells whether a first address is not the line 0, or the second one lets it be that.
func mayBeZero(first, second *api.Addr) bool {
	return first.Kind != api.AddrLine || first.N != 0 || second.Kind == api.AddrRegex
}

// address reads a first address, if one stands here.
func (r *reader) address() api.Addr {
	begin := r.at
	a := r.anyAddress()
	if a.Kind == api.AddrLine && r.next("~") {
		r.at++
		a.Kind, a.Step = api.AddrStep, r.lineNumber(begin)
	}
	return a
}

func (r *reader) secondAddress() api.Addr {
	begin := r.at
	var a api.Addr
	switch {
	case r.next("+"):
		r.at++
		a = api.Addr{Kind: api.AddrPlus, N: r.lineNumber(begin)}
	case r.next("~"):
		r.at++
		a = api.Addr{Kind: api.AddrMultiple, N: r.lineNumber(begin)}
	default:
		a = r.anyAddress()
	}
	if a.Kind == api.AddrNone {
		giveUp(begin, api.RuleAddress)
	}
	return a
}

// anyAddress reads an address of a kind that the first and the second one may be, if one stands here.
func (r *reader) anyAddress() api.Addr {
	switch {
	case r.next(digits):
		return api.Addr{Kind: api.AddrLine, N: r.lineNumber(r.at)}
	case r.next("$"):
		r.at++
		return api.Addr{Kind: api.AddrLast}
	case r.next("/\\"):
		return r.regexAddress()
	}
	return api.Addr{}
}

// lineNumber reads a number of the address that begins at a place.
func (r *reader) lineNumber(begin int) int {
	n, given := r.number()
	if !given || n > api.MaxNumber {
		giveUp(begin, api.RuleAddress)
	}
	return n
}

func (r *reader) regexAddress() api.Addr {
	begin := r.at
	if r.next("\\") {
		r.at++
	}
	by, ok := r.delimiter()
	var p part
	if ok {
		p, ok = r.part(by, false)
	}
	if !ok {
		giveUp(begin, api.RuleAddress)
	}
	a := api.Addr{Kind: api.AddrRegex, Regex: r.regex(p)}
	if r.next("I") {
		r.at++
		fold(&a.Regex, p.at)
	}
	return a
}
