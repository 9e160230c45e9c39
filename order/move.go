package order

import (
	"crupper/api"
	"crupper/ite"
	"crupper/quant"
)

// Move: P37.2.
func Move(d *ite.BDD, f int, l ...int) (int, bool) {
	if d == nil || !d.Is(f) || !Right(d.Vars(), l...) {
		return 0, false
	}
	m := mover{
		to:     d,
		own:    ite.New(d.Vars(), api.MaxBudget),
		order:  l,
		back:   Back(l...),
		places: map[int]int{},
		moved:  map[int]int{},
	}
	moved := m.move(m.copied(f, map[int]int{}))
	if d.Spent() {
		return 0, false
	}
	return moved, true
}

// mover moves a diagram. What is left of it, with some variables told, has nodes of its own in the old order: they are made apart, so that of to no more are asked for than the answer has.
type mover struct {
	to, own *ite.BDD
	order   []int
	back    []int
	places  map[int]int // by own's nodes: the first place that a variable of theirs comes to
	moved   map[int]int // by own's nodes: the nodes of to
}

// copied is the diagram f of to, in own.
func (m *mover) copied(f int, done map[int]int) int {
	parts, ok := m.to.Made(f)
	if !ok {
		return f
	}
	if _, was := done[f]; !was {
		done[f] = m.own.Make(parts.Var, m.copied(parts.Lo, done), m.copied(parts.Hi, done))
	}
	return done[f]
}

// move is own's diagram n, moved, in to; once that is spent nothing is, and all ends.
func (m *mover) move(n int) int {
	if _, ok := m.own.Made(n); !ok || m.to.Spent() {
		return n
	}
	if _, was := m.moved[n]; !was {
		at := m.place(n)
		lo, hi := m.halves(n, m.back[at])
		m.moved[n] = m.to.Make(at, m.move(lo), m.move(hi))
	}
	return m.moved[n]
}

// halves are own's diagram n where v is false, and where it is true.
func (m *mover) halves(n, v int) (int, int) {
	if parts, _ := m.own.Made(n); parts.Var == v {
		return parts.Lo, parts.Hi
	}
	return quant.Restrict(m.own, n, v, false), quant.Restrict(m.own, n, v, true)
}

// place is the first place that a variable of own's diagram n comes to; behind all places, if it has none.
func (m *mover) place(n int) int {
	parts, ok := m.own.Made(n)
	if !ok {
		return len(m.order)
	}
	if _, was := m.places[n]; !was {
		m.places[n] = min(m.order[parts.Var], m.place(parts.Lo), m.place(parts.Hi))
	}
	return m.places[n]
}
