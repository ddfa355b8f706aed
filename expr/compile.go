package expr

import (
	"ablaut/api"
	"ablaut/auto"
	"ablaut/det"
)

// maker makes minimal acceptors over an alphabet. It keeps the first error; what it makes behind this one is of no use.
type maker struct {
	sigma []string
	err   api.Errno
}

// made returns a net that came with an error or with none, and keeps the error.
func (m *maker) made(n api.Net, err api.Errno) api.Net {
	if m.err == api.OK {
		m.err = err
	}
	return n
}

// operations returns the operations of nets.
func (m *maker) operations() map[int]func(s string, l []api.Net) api.Net {
	return map[int]func(s string, l []api.Net) api.Net{
		api.ESym:     func(s string, l []api.Net) api.Net { return m.words([]string{s}) },
		api.EAny:     func(s string, l []api.Net) api.Net { return m.single() },
		api.ENone:    func(s string, l []api.Net) api.Net { return m.words(nil) },
		api.EVoid:    func(s string, l []api.Net) api.Net { return m.words() },
		api.EChain:   func(s string, l []api.Net) api.Net { return m.joined(det.Chain, l...) },
		api.EOr:      func(s string, l []api.Net) api.Net { return m.joined(det.Either, l...) },
		api.EAnd:     func(s string, l []api.Net) api.Net { return m.joined(det.Both, l...) },
		api.EBut:     func(s string, l []api.Net) api.Net { return m.joined(det.Less, l...) },
		api.EStar:    func(s string, l []api.Net) api.Net { return m.star(l[0]) },
		api.EPlus:    func(s string, l []api.Net) api.Net { return m.joined(det.Chain, l[0], m.star(l[0])) },
		api.EOpt:     func(s string, l []api.Net) api.Net { return m.joined(det.Either, l[0], m.words(nil)) },
		api.ENot:     func(s string, l []api.Net) api.Net { return m.not(l[0]) },
		api.EHas:     func(s string, l []api.Net) api.Net { return m.joined(det.Chain, m.all(), l[0], m.all()) },
		api.EIgnore:  func(s string, l []api.Net) api.Net { return m.least(ignored(l[0], l[1])) },
		api.EOnly:    func(s string, l []api.Net) api.Net { return m.only(l[0], l[1], l[2]) },
		api.EShuffle: func(s string, l []api.Net) api.Net { return m.least(shuffled(l[0], l[1])) },
	}
}

// words returns the net of some words.
func (m *maker) words(l ...[]string) api.Net {
	return m.made(det.Min(m.made(auto.Of(m.sigma, l))))
}

// single returns the net of all words of one symbol.
func (m *maker) single() api.Net {
	var l [][]string
	for _, s := range m.sigma {
		l = append(l, []string{s})
	}
	return m.words(l...)
}

// all returns the net of all words.
func (m *maker) all() api.Net { return m.not(m.words()) }

func (m *maker) not(n api.Net) api.Net { return m.made(det.Complement(n)) }

func (m *maker) star(n api.Net) api.Net { return m.made(det.Star(n)) }

// joined joins nets two by two, the last ones first: so chains have fewer subsets on the way.
func (m *maker) joined(two func(a, b api.Net) (api.Net, api.Errno), l ...api.Net) api.Net {
	n := l[len(l)-1]
	for i := len(l) - 2; i >= 0; i-- {
		n = m.made(two(l[i], n))
	}
	return n
}

// only returns the net of EOnly: of all words but those that have a word of a with the wrong thing ahead of it, or behind it.
func (m *maker) only(a, l, r api.Net) api.Net {
	ahead := m.not(m.joined(det.Chain, m.all(), l))
	behind := m.not(m.joined(det.Chain, r, m.all()))
	wrong := m.joined(det.Either,
		m.joined(det.Chain, ahead, a, m.all()),
		m.joined(det.Chain, m.all(), a, behind))
	return m.not(wrong)
}

// least returns the minimal acceptor of a net that was made here.
func (m *maker) least(n api.Net) api.Net {
	n = m.made(det.Min(n))
	// It may have more arcs than a net may have, where it has many states and many symbols.
	return m.made(n, auto.Validate(n))
}

// tooLarge returns a net that det refuses for its size, without the memory that it would take.
func tooLarge() api.Net { return api.Net{States: api.MaxStates + 1} }

// ignored returns an acceptor of the words of a with words of b put in.
func ignored(a, b api.Net) api.Net {
	// Behind the states of a, each of them has the states of b for itself: to them, and back from their ends, one comes without a symbol.
	n := auto.Copy(a)
	n.States = a.States * (1 + b.States)
	if n.States > api.MaxSmall {
		return tooLarge()
	}
	for p := range a.States {
		begin := a.States + p*b.States
		n.Arcs = append(n.Arcs, api.Arc{From: p, To: begin})
		for _, x := range b.Arcs {
			n.Arcs = append(n.Arcs, api.Arc{From: begin + x.From, In: x.In, Out: x.Out, To: begin + x.To})
		}
		for _, x := range b.Ends {
			n.Arcs = append(n.Arcs, api.Arc{From: begin + x.State, To: p})
		}
	}
	return n
}

// shuffled returns an acceptor of the words of a and of b put into each other.
func shuffled(a, b api.Net) api.Net {
	// A state for each two states: each symbol leads on in one of both.
	n := api.Net{Sigma: a.Sigma, States: a.States * b.States}
	if n.States > api.MaxSmall {
		return tooLarge()
	}
	for q := range b.States {
		for _, x := range a.Arcs {
			n.Arcs = append(n.Arcs, api.Arc{From: x.From*b.States + q, In: x.In, Out: x.Out, To: x.To*b.States + q})
		}
	}
	for p := range a.States {
		for _, x := range b.Arcs {
			n.Arcs = append(n.Arcs, api.Arc{From: p*b.States + x.From, In: x.In, Out: x.Out, To: p*b.States + x.To})
		}
	}
	for _, x := range a.Ends {
		for _, y := range b.Ends {
			n.Ends = append(n.Ends, api.End{State: x.State*b.States + y.State})
		}
	}
	return n
}
