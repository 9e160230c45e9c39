package quant_test

import (
	"math/bits"
	"slices"
	"testing"

	"crupper/api"
	"crupper/ite"
	"crupper/plain"
	"crupper/quant"
)

// least is a diagram of at least n of the variables from v on being true.
func least(d *ite.BDD, v, n int) int {
	rows := make([]int, n+1) // of the variables behind the last one that was gone through at least so many are true
	rows[0] = 1
	for last := d.Vars() - 1; last >= v; last-- {
		for i := n; i > 0; i-- {
			rows[i] = d.Make(last, rows[i], rows[i-1])
		}
	}
	return rows[n]
}

// odd is a diagram of an odd number of these variables being true.
func odd(d *ite.BDD, vars ...int) int {
	f := 0
	for _, v := range slices.Backward(vars) {
		f = d.Xor(f, d.Lit(v))
	}
	return f
}

// all are the numbers from a on, below b.
func all(a, b int) []int {
	var l []int
	for v := a; v < b; v++ {
		l = append(l, v)
	}
	return l
}

// holds holds where a diagram is true against where it is to be, at bits that are drawn.
func holds(t *testing.T, what string, d *ite.BDD, f int, is func(b uint64) bool) {
	t.Helper()
	if d.Spent() || !d.Is(f) {
		t.Fatalf("%s: %d, spent %v", what, f, d.Spent())
	}
	dice := plain.Dice(61)
	for range 2000 {
		var b uint64
		few := 1 + dice.Below(9)
		for i := range 64 {
			if dice.Below(10) < few {
				b |= 1 << i
			}
		}
		if d.At(f, b) != is(b) {
			t.Fatalf("%s: %d is %v at %b", what, f, !is(b), b)
		}
	}
}

// TestP17_1Odd: of diagrams of all variables that there may be, in which nodes come together again and again.
func TestP17_1Odd(t *testing.T) {
	const vars = api.MaxBits
	d := ite.New(vars, api.MaxBudget)
	f := odd(d, all(0, vars)...)
	without := func(l ...int) []int {
		return slices.DeleteFunc(all(0, vars), func(v int) bool { return slices.Contains(l, v) })
	}
	for _, v := range []int{0, 1, 30, 59, 60} {
		rest := odd(d, without(v)...)
		hold(t, []told{
			{"Restrict", quant.Restrict(d, f, v, false), rest},
			{"Restrict", quant.Restrict(d, f, v, true), d.Not(rest)},
			{"Some", quant.Some(d, f, v), 1},
			{"Each", quant.Each(d, f, v), 0},
			{"Put", quant.Put(d, f, v, d.Not(d.Lit(v))), d.Not(f)},
			{"Put of itself", quant.Put(d, f, v, f), d.Lit(v)},
			{"Put", quant.Put(d, f, v, rest), 0},
			{"Size", quant.Size(d, f), 2*vars - 1},
			{"Size", quant.Size(d, rest), 2*vars - 3},
		})
		if l := quant.Support(d, rest); !slices.Equal(l, without(v)) {
			t.Errorf("without %d it hangs on %v", v, l)
		}
	}
	hold(t, []told{
		{"Put of the last one in the first one", quant.Put(d, f, 0, d.Lit(60)), odd(d, without(0, 60)...)},
		{"Put of the first one in the last one", quant.Put(d, f, 60, d.Lit(0)), odd(d, without(0, 60)...)},
		{"Some of all", quant.Some(d, f, all(0, vars)...), 1},
		{"Each of all", quant.Each(d, f, all(0, vars)...), 0},
	})
	if l := quant.Support(d, f); !slices.Equal(l, all(0, vars)) || d.Spent() {
		t.Errorf("it hangs on %v; spent %v", l, d.Spent())
	}
}

// TestP17_1Many: at least so many of all are true: with so many fewer that are let go, or kept.
func TestP17_1Many(t *testing.T) {
	const vars, n = api.MaxBits, 30
	d := ite.New(vars, api.MaxBudget)
	f := least(d, 0, n)
	for _, gone := range []int{1, 5, 29, 30, 31, 32, 60, 61} {
		hold(t, []told{
			{"Some of the first", quant.Some(d, f, all(0, gone)...), least(d, gone, max(0, n-gone))},
			{"Each of the first", quant.Each(d, f, all(0, gone)...), least(d, gone, n)},
		})
		some, each := quant.Some(d, f, all(vars-gone, vars)...), quant.Each(d, f, all(vars-gone, vars)...)
		those := uint64(1)<<(vars-gone) - 1
		holds(t, "Some of the last", d, some, func(b uint64) bool { return bits.OnesCount64(b&those)+gone >= n })
		holds(t, "Each of the last", d, each, func(b uint64) bool { return bits.OnesCount64(b&those) >= n })
	}
	for _, v := range []int{0, 17, 60} {
		rest := uint64(1)<<vars - 1 - 1<<v
		for i, so := range []bool{false, true} {
			is := quant.Restrict(d, f, v, so)
			holds(t, "Restrict", d, is, func(b uint64) bool { return bits.OnesCount64(b&rest)+i >= n })
			hold(t, []told{
				{"Restrict of the same once more", quant.Restrict(d, is, v, !so), is},
				{"Put", quant.Put(d, f, v, i), is},
			})
		}
	}
	if size := quant.Size(d, f); size != n*(vars-n+1) {
		t.Errorf("%d nodes", size)
	}
}

// TestP17_1Spent: with too small a budget all ends, and doesn't panic, then and from then on.
func TestP17_1Spent(t *testing.T) {
	for budget := range int64(80) {
		d := ite.New(20, budget)
		f := least(d, 0, 3)
		for _, g := range []int{f, 0, 1, 2, int(budget), int(budget) + 1} {
			for _, v := range []int{0, 1, 10, 19, 20} {
				quant.Restrict(d, g, v, true)
				quant.Restrict(d, g, v, false)
				quant.Put(d, g, v, f)
				quant.Put(d, f, v, g)
				quant.Some(d, g, 1, v, 3)
				quant.Each(d, g, v, 0)
				quant.Support(d, g)
				quant.Size(d, g)
			}
		}
		if d.Len() > budget {
			t.Errorf("%d nodes, more than %d", d.Len(), budget)
		}
	}
}

// TestP17_1Enough: with as many nodes as it takes with the greatest budget, all is the same; with one less it is spent.
func TestP17_1Enough(t *testing.T) {
	play := func(d *ite.BDD) []int {
		f := least(d, 0, 4)
		g := odd(d, 0, 3, 5, 7)
		return []int{f, g, quant.Some(d, g, 3, 7), quant.Some(d, f, 2, 5), quant.Each(d, f, 1, 6), quant.Restrict(d, f, 4, true), quant.Put(d, f, 6, g), quant.Put(d, g, 5, f)}
	}
	free := ite.New(8, api.MaxBudget)
	want := play(free)
	d := ite.New(8, free.Len())
	if got := play(d); !slices.Equal(got, want) || d.Spent() || d.Len() != free.Len() {
		t.Errorf("%v, not %v; spent %v", got, want, d.Spent())
	}
	d = ite.New(8, free.Len()-1)
	if play(d); !d.Spent() {
		t.Error("one node less is enough")
	}
}

// TestP17_1Apart: what is made of one's diagrams isn't in another one.
func TestP17_1Apart(t *testing.T) {
	a, b := ite.New(4, 100), ite.New(4, 100)
	f := least(a, 0, 2)
	least(b, 0, 3)
	nodes := b.Len()
	quant.Put(a, f, 2, quant.Restrict(a, quant.Some(a, f, 1), 3, true))
	quant.Each(a, f, 0)
	if b.Len() != nodes || b.Calls() != 0 {
		t.Errorf("%d nodes, not %d; %d calls", b.Len(), nodes, b.Calls())
	}
}

// TestP17_1Nil: nil, of which the chapter doesn't speak, doesn't panic.
func TestP17_1Nil(t *testing.T) {
	for _, f := range append(outside(0), 0, 1) {
		for _, v := range append(strange(0), 0, 1) {
			want := boolean(f == 1)
			hold(t, []told{
				{"Restrict", quant.Restrict(nil, f, v, true), want},
				{"Some", quant.Some(nil, f, v, v), want},
				{"Each", quant.Each(nil, f, v), want},
				{"Put", quant.Put(nil, f, v, 1), want},
				{"Put", quant.Put(nil, 1, v, f), boolean(f == 0 || f == 1)},
				{"Size", quant.Size(nil, f), 0},
				{"Support", len(quant.Support(nil, f)), 0},
			})
		}
	}
}

func boolean(is bool) int {
	if is {
		return 1
	}
	return 0
}
