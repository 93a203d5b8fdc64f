package space_test

import (
	"slices"
	"strconv"
	"strings"
	"testing"

	"paddock/api"
	"paddock/space"
)

// A second reading of the chapter's words: a space as a value, and calls as what they make of it.

const n = "\n"

type model struct {
	p, h  string
	queue []api.Item
	quota int
}

func (m model) used() int {
	sum := len(m.p) + len(m.h)
	for _, x := range m.queue {
		sum += len(x.Text)
	}
	return sum
}

func (m model) firstLine() (string, string, bool) {
	for i := range len(m.p) {
		if m.p[i:i+1] == n {
			return m.p[:i], m.p[i+1:], true
		}
	}
	return m.p, "", false
}

// call is one of a space: how it is made, and what it makes of a model; both tell what is answered. Swap and Drop never need room.
type call struct {
	name string
	ask  func(*space.Space) string
	mean func(model) (model, string)
}

func told(why api.Errno) string { return strconv.Itoa(int(why)) }

func itemsTold(l []api.Item) string {
	var out []string
	for _, x := range l {
		out = append(out, strconv.Itoa(int(x.Kind))+strconv.Quote(x.Text))
	}
	return strings.Join(out, " ")
}

func change(name string, ask func(*space.Space) api.Errno, mean func(*model)) call {
	return call{name, func(s *space.Space) string { return told(ask(s)) }, func(m model) (model, string) {
		mean(&m)
		return m, told(api.OK)
	}}
}

func set(text string) call {
	return change("Set "+strconv.Quote(text), func(s *space.Space) api.Errno { return s.Set(text) }, func(m *model) { m.p = text })
}

func join(text string) call {
	return change("Join "+strconv.Quote(text), func(s *space.Space) api.Errno { return s.Join(text) }, func(m *model) { m.p = m.p + n + text })
}

func push(kind api.ItemKind, text string) call {
	x := api.Item{Kind: kind, Text: text}
	c := change("Push "+itemsTold([]api.Item{x}), func(s *space.Space) api.Errno { return s.Push(x) }, func(m *model) { m.queue = append(slices.Clip(m.queue), x) })
	if !slices.Contains([]api.ItemKind{api.ItemText, api.ItemFile, api.ItemLine}, kind) {
		c.mean = func(m model) (model, string) { return m, told(api.ErrRange) }
	}
	return c
}

func plainCalls() []call {
	return []call{
		change("Get", (*space.Space).Get, func(m *model) { m.p = m.h }),
		change("GetMore", (*space.Space).GetMore, func(m *model) { m.p = m.p + n + m.h }),
		change("Put", (*space.Space).Put, func(m *model) { m.h = m.p }),
		change("PutMore", (*space.Space).PutMore, func(m *model) { m.h = m.h + n + m.p }),
		change("Swap", (*space.Space).Swap, func(m *model) { m.p, m.h = m.h, m.p }),
		{"Drop", func(s *space.Space) string {
			more, why := s.Drop()
			return strconv.FormatBool(more) + told(why)
		}, func(m model) (model, string) {
			_, rest, more := m.firstLine()
			m.p = rest
			return m, strconv.FormatBool(more) + told(api.OK)
		}},
		{"Take", func(s *space.Space) string {
			l, why := s.Take()
			return itemsTold(l) + told(why)
		}, func(m model) (model, string) {
			l := m.queue
			m.queue = nil
			return m, itemsTold(l) + told(api.OK)
		}},
	}
}

// meant is what a call means: refused, if it would come above the quota.
func meant(m model, c call) (model, string) {
	next, answer := c.mean(m)
	if next.used() > m.quota {
		return m, told(api.ErrMemory)
	}
	return next, answer
}

// stands tells all that a space has.
func stands(s *space.Space) string {
	line, more := s.First()
	return strings.Join([]string{strconv.Quote(s.Pattern()), strconv.Quote(s.Hold()), itemsTold(s.Queue()), strconv.Itoa(s.Used()), strconv.Quote(line), strconv.FormatBool(more)}, " | ")
}

func (m model) stands() string {
	line, _, more := m.firstLine()
	return strings.Join([]string{strconv.Quote(m.p), strconv.Quote(m.h), itemsTold(m.queue), strconv.Itoa(m.used()), strconv.Quote(line), strconv.FormatBool(more)}, " | ")
}

// run makes some calls, and holds what is answered and what there is against the words, behind each.
func run(t *testing.T, quota int, l []call) {
	t.Helper()
	s, why := space.New(quota)
	if why != api.OK {
		t.Fatalf("New(%d): error %d", quota, why)
	}
	m := model{quota: quota}
	for i, c := range l {
		var want string
		m, want = meant(m, c)
		got := c.ask(s)
		if got != want || stands(s) != m.stands() || s.Used() > quota {
			t.Fatalf("quota %d, %s: %s, %s; not %s, %s", quota, names(l[:i+1]), got, stands(s), want, m.stands())
		}
	}
}

func names(l []call) string {
	var out []string
	for _, c := range l {
		out = append(out, c.name)
	}
	return strings.Join(out, ", ")
}
