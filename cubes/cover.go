package cubes

import (
	"slices"

	"crupper/ite"
	"crupper/sat"
)

// Cover: P38.2.
func Cover(d *ite.BDD, f int) ([][]int, bool) {
	if d == nil || !d.Is(f) {
		return nil, false
	}
	var l [][]int
	way := slices.Repeat([]int{either}, d.Vars()) // what is told of the variables ahead

	// cover adds cubes that are true wherever must is, but only where may is, and answers their Union, without the way. Where must is, may is. As each cube alone is true at some place of must, none can be left out; and there what was told on the way is needed, too.
	var cover func(must, may int) int
	cover = func(must, may int) int {
		switch {
		case d.Spent() || sat.Never(d, must):
			return falsity
		case sat.Always(d, may):
			l = append(l, slices.Clone(way))
			return truth
		}
		v := first(d, must, may)
		must0, must1 := halves(d, must, v)
		may0, may1 := halves(d, may, v)
		way[v] = no
		f0 := cover(d.Less(may1, must0), may0)
		way[v] = yes
		f1 := cover(d.Less(may0, must1), may1)
		way[v] = either
		rest := d.Or(d.Less(f0, must0), d.Less(f1, must1))
		if sat.Never(d, rest) {
			return d.Make(v, f0, f1) // so that no nodes are made of what isn't asked for
		}
		both := cover(rest, d.And(may0, may1))
		return d.Make(v, d.Or(f0, both), d.Or(f1, both))
	}
	cover(f, f)
	if d.Spent() {
		return nil, false
	}
	return l, true
}

// first is the first variable of two diagrams that are neither 0 nor 1.
func first(d *ite.BDD, f, g int) int {
	a, _ := d.Made(f)
	b, _ := d.Made(g)
	return min(a.Var, b.Var)
}

// halves are f, that is neither 0 nor 1, where v is false, and where it is true. No variable of f is ahead of v.
func halves(d *ite.BDD, f, v int) (int, int) {
	if parts, _ := d.Made(f); parts.Var == v {
		return parts.Lo, parts.Hi
	}
	return f, f
}
