package sat

import (
	"math"

	"crupper/api"
	"crupper/ite"
)

// most is how many bits are told at once.
const most = 1000

// none stands where there are no bits: it is above all that there may be, and stays what it is with any bit more.
const none uint64 = math.MaxUint64

// Least: P18.1.
func Least(d *ite.BDD, f int) (uint64, bool) {
	least := rising(d, f, false)(0)
	if least == none {
		return 0, false
	}
	return least, true
}

// Greatest: P18.1.
func Greatest(d *ite.BDD, f int) (uint64, bool) {
	least := rising(d, f, true)(0)
	if least == none {
		return 0, false
	}
	return least ^ (1<<d.Vars() - 1), true
}

// First: P18.1.
func First(d *ite.BDD, f, n int) []uint64 {
	ith := rising(d, f, false)
	var l []uint64
	for i := range min(n, most) {
		bits := ith(i)
		if bits == none {
			break
		}
		l = append(l, bits)
	}
	return l
}

// rising tells the i-th of the bits at which f is true, from the least on; of those with all variables turned, if it is turned.
func rising(d *ite.BDD, f int, turned bool) func(i int) uint64 {
	r := rows{d: d, turned: turned, of: map[int]*row{}}
	return func(i int) uint64 { return r.ith(f, 0, i) }
}

// row is at which bits a node is true, of its variable and those behind it: the least ones, rising. The last variables weigh most, so that they come of what the node goes on with, merged, and not from its beginning on.
type row struct {
	bits   []uint64
	lo, hi int // how many of them came of where the variable is false, and true
}

// rows has those of a diagram's nodes, as far as they were asked for.
type rows struct {
	d      *ite.BDD
	turned bool
	of     map[int]*row
}

// ith is the i-th of the bits at which n is true, of the variables from v on, if it has none ahead of v.
func (r *rows) ith(n, v, i int) uint64 {
	parts, ok := r.d.Made(n)
	if !ok {
		parts.Var = r.d.Vars()
	}
	free := parts.Var - v // it is the same with all truths of these, which weigh least
	return r.own(n, i>>free) | (uint64(i)&(1<<free-1))<<v
}

// own is the i-th of those of n's variable and those behind it.
func (r *rows) own(n, i int) uint64 {
	parts, ok := r.d.Made(n)
	switch {
	case n == truth && i == 0:
		return 0
	case !ok:
		return none
	case r.turned:
		parts.Lo, parts.Hi = parts.Hi, parts.Lo
	}
	if r.of[n] == nil {
		r.of[n] = &row{}
	}
	for len(r.of[n].bits) <= i {
		if !r.grow(r.of[n], parts) {
			return none
		}
	}
	return r.of[n].bits[i]
}

// grow adds one more to the row of a node of these parts, if there is one.
func (r *rows) grow(l *row, parts api.Node) bool {
	lo := r.ith(parts.Lo, parts.Var+1, l.lo)
	hi := r.ith(parts.Hi, parts.Var+1, l.hi) | 1<<parts.Var
	switch {
	case lo < hi:
		l.lo++
	case hi < lo:
		l.hi++
	default:
		return false // there are none of either
	}
	l.bits = append(l.bits, min(lo, hi))
	return true
}
