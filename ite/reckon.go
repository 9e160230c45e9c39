package ite

import "crupper/cache"

// How many answers are kept: of few nodes, and at most.
const (
	fewest = 1 << 6
	most   = 1 << 16
)

// What an answer that is kept was reckoned of.
const (
	chosen = 1 // three diagrams: where the first is true, the second, else the third
	unlike = 2 // two diagrams: where just one is true
)

// choose is g where f is true, else h; it makes the nodes of that alone. Once d is spent it is 0.
func (d *BDD) choose(f, g, h int) int {
	f, g, h = d.simplest(f, g, h)
	switch {
	case d.Spent():
		return falsity
	case f == truth, g == h:
		return g
	case f == falsity:
		return h
	case g == truth && h == falsity:
		return f
	}
	if n, ok := d.Cache.Get(chosen, f, g, h); ok {
		return n
	}
	v := min(d.Var(f), d.Var(g), d.Var(h))
	f0, f1 := d.parts(f, v)
	g0, g1 := d.parts(g, v)
	h0, h1 := d.parts(h, v)
	n := d.Make(v, d.choose(f0, g0, h0), d.choose(f1, g1, h1))
	return d.keep(chosen, f, g, h, n)
}

// simplest asks the same another way, so that what was reckoned is found more often.
func (d *BDD) simplest(f, g, h int) (int, int, int) {
	if g == f {
		g = truth
	}
	if h == f {
		h = falsity
	}
	switch {
	case h == falsity && g < f:
		return g, f, h
	case g == truth && h < f:
		return h, g, f
	}
	return f, g, h
}

// differ is true where just one of both is; it makes the nodes of that alone. Once d is spent it is 0.
func (d *BDD) differ(f, g int) int {
	f, g = min(f, g), max(f, g)
	switch {
	case d.Spent(), f == g:
		return falsity
	case f == falsity:
		return g
	case f == truth:
		return d.choose(g, falsity, truth)
	}
	if n, ok := d.Cache.Get(unlike, f, g, 0); ok {
		return n
	}
	v := min(d.Var(f), d.Var(g))
	f0, f1 := d.parts(f, v)
	g0, g1 := d.parts(g, v)
	n := d.Make(v, d.differ(f0, g0), d.differ(f1, g1))
	return d.keep(unlike, f, g, 0, n)
}

// parts are f where v is false, and where it is true. No variable of f is ahead of v.
func (d *BDD) parts(f, v int) (int, int) {
	n, ok := d.Made(f)
	if !ok || n.Var != v {
		return f, f
	}
	return n.Lo, n.Hi
}

// keep keeps an answer, and tells it; one that lacks nodes, as none were left, is 0 and isn't kept.
func (d *BDD) keep(op, f, g, h, answer int) int {
	if d.Spent() {
		return falsity
	}
	if d.Size() < most && int64(d.Size()) < d.Len() {
		d.Cache = cache.New(2 * d.Size()) // what was kept is lost, but that is seldom
	}
	d.Put(op, f, g, h, answer)
	return answer
}
