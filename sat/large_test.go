package sat_test

import (
	"math/bits"
	"testing"

	"crupper/api"
	"crupper/ite"
	"crupper/sat"
)

const (
	vars = api.MaxBits
	full = uint64(1)<<vars - 1
)

// filled is a path of all variables, all alike.
func filled(n int) []int {
	l := make([]int, vars)
	for v := range l {
		l[v] = n
	}
	return l
}

// first are the 1000 least numbers of which that is so, from a number on.
func first(from uint64, is func(b uint64) bool) []uint64 {
	var l []uint64
	for b := from; len(l) < 1000; b++ {
		if is(b) {
			l = append(l, b)
		}
	}
	return l
}

// odd is a diagram of an odd number of all variables being true.
func odd(d *ite.BDD) int {
	f := 0
	for v := d.Vars() - 1; v >= 0; v-- {
		f = d.Xor(f, d.Lit(v))
	}
	return f
}

// least is a diagram of at least n of all variables being true.
func least(d *ite.BDD, n int) int {
	rows := make([]int, n+1)
	rows[0] = 1
	for v := d.Vars() - 1; v >= 0; v-- {
		for i := n; i > 0; i-- {
			rows[i] = d.Make(v, rows[i], rows[i-1])
		}
	}
	return rows[n]
}

// TestP18_1Variables: of all variables that there may be, by the first one, and by the last one.
func TestP18_1Variables(t *testing.T) {
	d := ite.New(vars, 100)
	a, z := d.Lit(0), d.Lit(vars-1)
	begins, ends := filled(-1), filled(-1)
	begins[0], ends[vars-1] = 1, 1
	both := filled(-1)
	both[0], both[vars-1] = 1, 1
	one := filled(-1)
	one[0], one[vars-1] = 0, 1
	isOdd := func(b uint64) bool { return b%2 == 1 }
	every := func(uint64) bool { return true }
	hold(t, "the first", d, a, answers{1 << 60, 1, full, begins, true, false, first(0, isOdd)})
	hold(t, "the last", d, z, answers{1 << 60, 1 << 60, full, ends, true, false, first(1<<60, every)})
	hold(t, "both", d, d.And(a, z), answers{1 << 59, 1<<60 | 1, full, both, true, false, first(1<<60, isOdd)})
	hold(t, "one", d, d.Xor(a, z), answers{1 << 60, 1, full - 1, one, true, false, first(0, isOdd)})
	hold(t, "1", d, 1, answers{1 << 61, 0, full, filled(-1), true, true, first(0, every)})
	hold(t, "0", d, 0, answers{})
}

// TestP18_1Odd: nodes that come together again and again.
func TestP18_1Odd(t *testing.T) {
	d := ite.New(vars, api.MaxBudget)
	f := odd(d)
	last, none := filled(0), filled(0)
	last[vars-1] = 1
	isOdd := func(b uint64) bool { return bits.OnesCount64(b)%2 == 1 }
	hold(t, "odd", d, f, answers{1 << 60, 1, full, last, true, false, first(0, isOdd)})
	g := d.Not(f)
	hold(t, "even", d, g, answers{1 << 60, 0, full - 1, none, true, false, first(0, func(b uint64) bool { return !isOdd(b) })})
	h := d.Xor(f, d.Lit(30))
	if sat.Entails(d, f, g) || sat.Entails(d, g, f) || !sat.Entails(d, f, d.Not(g)) || sat.Entails(d, h, f) || !sat.Entails(d, d.And(h, f), d.Not(d.Lit(30))) {
		t.Error("odd, even, and with one other one")
	}
}

// TestP18_1Many: at least so many are true.
func TestP18_1Many(t *testing.T) {
	d := ite.New(vars, api.MaxBudget)
	binomial, count := uint64(1), uint64(0) // of 61, from the greatest number on; at how many bits so many are true
	for n := vars; n > 0; n-- {
		count += binomial
		hi, lo := bits.Mul64(binomial, uint64(n))
		binomial, _ = bits.Div64(hi, lo, uint64(vars-n+1))
		f := least(d, n)
		begins := filled(0)
		for v := vars - n; v < vars; v++ {
			begins[v] = 1
		}
		want := answers{count, 1<<n - 1, full, begins, true, false, combinations(n)}
		hold(t, "many", d, f, want)
		if n > 1 && (!sat.Entails(d, f, least(d, n-1)) || sat.Entails(d, least(d, n-1), f)) {
			t.Errorf("%d and %d", n, n-1)
		}
	}
}

// combinations are the 1000 least numbers of at least n ones, or all that there are.
func combinations(n int) []uint64 {
	var l []uint64
	for b := uint64(0); len(l) < 1000; b++ {
		for v := 0; bits.OnesCount64(b) < n; v++ {
			b |= 1 << v // the lowest ones that are none yet: that adds least
		}
		if b > full {
			break
		}
		l = append(l, b)
	}
	return l
}

// TestP18_1Apart: pairs of variables that stand far apart, so that there are many nodes.
func TestP18_1Apart(t *testing.T) {
	const pairs = 14
	d := ite.New(2*pairs, api.MaxBudget)
	f, g := 0, 0
	for i := range pairs {
		f = d.Or(f, d.And(d.Lit(i), d.Lit(pairs+i)))
		g = d.Or(g, d.And(d.Lit(i), d.Lit(pairs+i), d.Lit((i+1)%pairs)))
	}
	is := func(b uint64) bool { return b&(b>>pairs)&(1<<pairs-1) != 0 }
	path := make([]int, 2*pairs)
	path[pairs-1], path[2*pairs-1] = 1, 1
	for i := pairs; i < 2*pairs-1; i++ {
		path[i] = -1
	}
	count := uint64(1)
	for range pairs {
		count *= 3
	}
	hold(t, "pairs", d, f, answers{1<<(2*pairs) - count, 1<<pairs | 1, 1<<(2*pairs) - 1, path, true, false, first(0, is)})
	if !sat.Entails(d, g, f) || sat.Entails(d, f, g) {
		t.Error("of more variables there are fewer bits")
	}
}
