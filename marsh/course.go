package marsh

import "paddock/api"

// Kind is what a run does, as far as something is asked ahead of it.
type Kind int

const (
	Stepped Kind = iota // a step is looked at
	Looked              // an expression is looked for from a place
	Held                // a call of the space is made
	Wrote               // an effect is done
)

// Event is one thing that a run does: how many steps a look takes, how many bytes the space has behind a call; the effect; where the run stands ahead of a step.
type Event struct {
	Kind   Kind
	N      int
	Effect api.Effect
	Moment api.Moment
}

// Course is all that a run does, in order, and its end. Cut: it was not read further, and the last event is the step that was not done.
type Course struct {
	Events []Event
	End    api.Moment
	Cut    bool
}

// Steps is how many steps were read.
func (c Course) Steps() int {
	n := 0
	for _, e := range c.Events {
		if e.Kind == Stepped {
			n++
		}
	}
	if c.Cut {
		n--
	}
	return n
}

// Meaning is how a run goes that is ended by so many steps, or by a quota, at the first thing that is too much. A course that is cut must be ended so.
func (c Course) Meaning(limit int, q api.Quota) api.Meaning {
	var m api.Meaning
	put := func(e api.Effect) int {
		n := 0
		for _, x := range m.Effects {
			if x.Kind == e.Kind && x.Name == e.Name {
				n += len(x.Text)
			}
		}
		return n + len(e.Text)
	}
	for _, e := range c.Events {
		m.Code = 4
		switch {
		case e.Kind == Stepped && m.Steps == limit:
			m.Code, m.Stop = 0, api.StopLimit
		case e.Kind == Stepped && m.Cost == q.Fuel:
			m.Stop = api.StopFuel
		case e.Kind == Looked && m.Cost+e.N > q.Fuel:
			m.Cost, m.Stop = q.Fuel, api.StopFuel
		case e.Kind == Held && e.N > q.Memory:
			m.Stop = api.StopMemory
		case e.Kind == Wrote && e.Effect.Kind == api.EffectOut && put(e.Effect) > q.Output:
			m.Stop = api.StopOutput
		case e.Kind == Wrote && e.Effect.Kind != api.EffectOut && put(e.Effect) > q.Each:
			m.Stop = api.StopEach
		}
		if m.Stop != api.StopNone {
			return m
		}
		m = behind(m, e)
	}
	m.Stop, m.Code = c.End.Stop, c.End.Code
	return m
}

// behind is a meaning behind one more thing.
func behind(m api.Meaning, e Event) api.Meaning {
	switch e.Kind {
	case Stepped:
		m.Steps++
		m.Cost++
	case Looked:
		m.Cost += e.N
	case Held:
		m.Peak = max(m.Peak, e.N)
	case Wrote:
		m.Effects = append(m.Effects, e.Effect)
	}
	return m
}

// At is where the run stands behind so many steps, or at its end.
func (c Course) At(steps int) api.Moment {
	for _, e := range c.Events {
		if e.Kind == Stepped && e.Moment.Done == steps {
			return e.Moment
		}
	}
	return c.End
}
