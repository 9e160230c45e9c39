package ite_test

import (
	"math/bits"
	"testing"

	"crupper/api"
	"crupper/ite"
	"crupper/plain"
)

// lits are the variables, as diagrams.
func lits(d *ite.BDD) []int {
	var l []int
	for v := range d.Vars() {
		l = append(l, d.Lit(v))
	}
	return l
}

// drawn are some bits, with few ones, or many.
func drawn(dice *plain.Dice) uint64 {
	var b uint64
	few := 1 + dice.Below(9)
	for i := range 64 {
		if dice.Below(10) < few {
			b |= 1 << i
		}
	}
	return b
}

// holds holds where a diagram is true against where it is to be, at bits that are drawn.
func holds(t *testing.T, what string, d *ite.BDD, f int, is func(b uint64) bool) {
	t.Helper()
	if d.Spent() || !d.Is(f) {
		t.Fatalf("%s: %d, spent %v", what, f, d.Spent())
	}
	dice := plain.Dice(61)
	for range 2000 {
		if b := drawn(&dice); d.At(f, b) != is(b) {
			t.Fatalf("%s: %d is %v at %b", what, f, !is(b), b)
		}
	}
}

// TestP16_2Odd: of all variables an odd number is true: two nodes a variable, but one of the first one.
func TestP16_2Odd(t *testing.T) {
	d := ite.New(api.MaxBits, api.MaxBudget)
	odd, back := 0, 0
	l := lits(d)
	for i, f := range l {
		odd = d.Xor(odd, f)
		back = d.Xor(l[len(l)-1-i], back)
	}
	if odd != back {
		t.Errorf("%d and %d are the same", odd, back)
	}
	holds(t, "odd", d, odd, func(b uint64) bool { return bits.OnesCount64(b&(1<<61-1))%2 == 1 })
	if n := d.Not(odd); d.Xor(n, odd) != 1 || d.Less(n, odd) != odd || d.Not(n) != odd {
		t.Errorf("what isn't odd is %d", n)
	}
}

// TestP16_2Many: of all variables at least so many are true, built upward by each way.
func TestP16_2Many(t *testing.T) {
	d := ite.New(api.MaxBits, api.MaxBudget)
	least := make([]int, 32) // of the variables so far at least so many are true
	least[0] = 1
	for _, f := range lits(d) {
		for n := len(least) - 1; n > 0; n-- {
			chosen := d.Ite(f, least[n-1], least[n])
			if other := d.Or(least[n], d.And(f, least[n-1])); other != chosen {
				t.Fatalf("%d and %d are the same", chosen, other)
			}
			least[n] = chosen
		}
	}
	for n, f := range least {
		holds(t, "many", d, f, func(b uint64) bool { return bits.OnesCount64(b&(1<<61-1)) >= n })
		if n > 0 && d.And(f, least[n-1]) != f {
			t.Errorf("where %d are, not %d are", n, n-1)
		}
	}
}

// TestP16_2Apart: pairs of variables that stand far apart, so that there are many nodes, more than answers are kept.
func TestP16_2Apart(t *testing.T) {
	const pairs = 16
	d := ite.New(2*pairs, api.MaxBudget)
	l := lits(d)
	one, none := 0, 1
	for i := range pairs {
		both := d.And(l[i], l[pairs+i])
		one, none = d.Or(one, both), d.Less(both, none)
	}
	is := func(b uint64) bool { return b&(b>>pairs)&(1<<pairs-1) != 0 }
	holds(t, "one", d, one, is)
	holds(t, "none", d, none, func(b uint64) bool { return !is(b) })
	if d.Not(one) != none || d.Xor(one, none) != 1 || d.Or(none, one) != 1 || d.And(one, none) != 0 || d.Len() < 1<<pairs {
		t.Errorf("one is %d, none %d, of %d nodes", one, none, d.Len())
	}
}

// TestP16_5Bound: with few variables there are no more nodes than functions.
func TestP16_5Bound(t *testing.T) {
	dice := plain.Dice(165)
	for vars, functions := range []int64{2, 4, 16, 256, 65536} {
		d := ite.New(vars, functions-2)
		l := append(lits(d), 0, 1)
		for range 3000 {
			c := made[dice.Below(len(made))]
			n := c.of(d, l[dice.Below(len(l))], l[dice.Below(len(l))], l[dice.Below(len(l))])
			if l = append(l, n); d.Spent() || d.Len() > functions-2 || d.Len() > d.Calls()<<(vars+1) {
				t.Fatalf("%d variables: %d nodes, %d calls, spent %v", vars, d.Len(), d.Calls(), d.Spent())
			}
		}
	}
}

// TestP16_5First: the first call of all is within the bound, too.
func TestP16_5First(t *testing.T) {
	for vars := range 62 {
		for _, n := range []int{0, 1, 2, 50} {
			d := ite.New(vars, api.MaxBudget)
			d.And(make([]int, n)...)
			if d.Len() != 0 || d.Calls() != int64(n) {
				t.Errorf("%d variables: %d nodes, %d calls", vars, d.Len(), d.Calls())
			}
			d.Lit(vars - 1)
			if d.Len() != int64(min(vars, 1)) || d.Calls() != int64(n)+1 {
				t.Errorf("%d variables: %d nodes, %d calls", vars, d.Len(), d.Calls())
			}
		}
	}
}

// TestP16_4Same: the same function by two ways is one number, of many variables, too.
func TestP16_4Same(t *testing.T) {
	dice := plain.Dice(4)
	for range 30 {
		d := ite.New(20, api.MaxBudget)
		l := append(lits(d), 0, 1)
		one := func() int { return l[dice.Below(len(l))] }
		for range 40 {
			f, g, h := one(), one(), one()
			nf, ng, nh := d.Not(f), d.Not(g), d.Not(h)
			for _, x := range [][2]int{
				{d.And(f, g, h), d.Not(d.Or(nf, ng, nh))},
				{d.And(f, g, h), d.And(h, f, g, f)},
				{d.Or(f, g, h), d.Or(h, d.Or(g, f))},
				{d.Xor(f, g), d.Ite(f, ng, g)},
				{d.Xor(f, g), d.Or(d.Less(f, g), d.Less(g, f))},
				{d.Xor(nf, g), d.Xor(f, ng)},
				{d.Less(f, g), d.And(nf, g)},
				{d.Ite(f, g, h), d.Or(d.And(f, g), d.And(nf, h))},
				{d.Ite(f, g, h), d.Ite(nf, h, g)},
				{d.Ite(f, g, h), d.Not(d.Ite(f, ng, nh))},
				{d.Not(nf), f},
			} {
				if x[0] != x[1] || d.Spent() {
					t.Fatalf("%d and %d are the same, of %d, %d, %d; spent %v", x[0], x[1], f, g, h, d.Spent())
				}
			}
			l = append(l, d.Ite(f, g, h), d.Xor(f, d.Less(g, h)))
			if l = l[2:]; d.Len() > 100000 {
				break
			}
		}
	}
}

// TestP16_1Parts: diagrams have what the table and the cache have, too, and find there what was reckoned once.
func TestP16_1Parts(t *testing.T) {
	d := ite.New(8, api.MaxBudget)
	l := lits(d)
	odd := d.Xor(d.Xor(l[0], l[1]), d.Xor(l[2], l[3]))
	either := d.Or(d.And(l[0], l[1]), d.And(l[2], l[3]))
	f := d.Ite(odd, either, l[4])
	if d.Var(f) != 0 || d.Var(l[4]) != 4 || d.Var(1) != 8 || d.Size() < 1 {
		t.Errorf("of the variables %d, %d, %d; %d places", d.Var(f), d.Var(l[4]), d.Var(1), d.Size())
	}
	nodes, hits := d.Len(), d.Hits()
	if n := d.Ite(odd, either, l[4]); n != f || d.Len() != nodes || d.Hits() != hits+1 {
		t.Errorf("once more: %d, not %d; %d nodes more, %d answers", n, f, d.Len()-nodes, d.Hits()-hits)
	}
	nodes, hits = d.Len(), d.Hits()
	f = d.Xor(f, odd)
	if n := d.Xor(odd, d.Ite(odd, either, l[4])); n != f || d.Hits() < hits+2 {
		t.Errorf("once more: %d, not %d; %d answers", n, f, d.Hits()-hits)
	}
	d.Clear()
	if n := d.Xor(odd, d.Ite(odd, either, l[4])); n != f {
		t.Errorf("reckoned anew it is %d, not %d", n, f)
	}
}
