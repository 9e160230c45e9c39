package ite_test

import (
	"math"
	"testing"

	"crupper/api"
	"crupper/ite"
	"crupper/node"
	"crupper/plain"
)

// made are the calls that answer a diagram, each of the same three, by its name; how many it counts.
var made = []struct {
	name   string
	of     func(d *ite.BDD, f, g, h int) int
	counts int64
}{
	{"Ite", func(d *ite.BDD, f, g, h int) int { return d.Ite(f, g, h) }, 1},
	{"Not", func(d *ite.BDD, f, g, h int) int { return d.Not(f) }, 1},
	{"And of one", func(d *ite.BDD, f, g, h int) int { return d.And(f) }, 1},
	{"And", func(d *ite.BDD, f, g, h int) int { return d.And(f, g, h) }, 3},
	{"Or of one", func(d *ite.BDD, f, g, h int) int { return d.Or(f) }, 1},
	{"Or", func(d *ite.BDD, f, g, h int) int { return d.Or(f, g, h) }, 3},
	{"Xor", func(d *ite.BDD, f, g, h int) int { return d.Xor(f, g) }, 1},
	{"Less", func(d *ite.BDD, f, g, h int) int { return d.Less(f, g) }, 1},
	{"Ite, turned", func(d *ite.BDD, f, g, h int) int { return d.Ite(g, h, f) }, 1},
	{"Ite, turned twice", func(d *ite.BDD, f, g, h int) int { return d.Ite(h, f, g) }, 1},
	{"And, turned", func(d *ite.BDD, f, g, h int) int { return d.And(h, g, f) }, 3},
	{"And of four", func(d *ite.BDD, f, g, h int) int { return d.And(g, h, g, f) }, 4},
	{"Or, turned", func(d *ite.BDD, f, g, h int) int { return d.Or(g, f, h) }, 3},
	{"Or of two", func(d *ite.BDD, f, g, h int) int { return d.Or(g, f) }, 2},
	{"Xor, turned", func(d *ite.BDD, f, g, h int) int { return d.Xor(g, f) }, 1},
	{"Less, turned", func(d *ite.BDD, f, g, h int) int { return d.Less(g, f) }, 1},
}

// asTable holds all that d tells of its nodes against a table.
func asTable(t *testing.T, what string, d *ite.BDD, want *node.Table) {
	t.Helper()
	if d.Len() != want.Len() || d.Vars() != want.Vars() || d.Spent() != want.Spent() {
		t.Errorf("%s: %d nodes, %d variables, spent %v, not %d, %d, %v", what, d.Len(), d.Vars(), d.Spent(), want.Len(), want.Vars(), want.Spent())
	}
	l := outside(int(want.Len()))
	for n := range int(want.Len()) + 2 {
		l = append(l, n)
	}
	for _, n := range l {
		parts, ok := d.Made(n)
		wanted, so := want.Get(n)
		if parts != wanted || ok != so || d.Is(n) != want.Is(n) {
			t.Errorf("%s: %d is %v, %v, %v, not %v, %v, %v", what, n, d.Is(n), parts, ok, want.Is(n), wanted, so)
		}
		for _, bits := range []uint64{0, 1, 2, 3, 4, 5, 6, 7, 1 << 60, 1 << 61, 1 << 63, math.MaxUint64, math.MaxUint64 - 1} {
			if d.At(n, bits) != want.At(n, bits) {
				t.Errorf("%s: %d is %v at %b", what, n, d.At(n, bits), bits)
			}
		}
	}
}

var vars = []int{math.MinInt, -61, -1, 0, 1, 2, 3, 31, 32, 60, 61, 62, 64, 1 << 32, math.MaxInt}

var budgets = []int64{math.MinInt64, -1, 0, 1, 2, 3, 1 << 32, api.MaxBudget}

// TestP16_1New: as the table of the same variables and budget, with some nodes of its own.
func TestP16_1New(t *testing.T) {
	for _, v := range vars {
		for _, b := range budgets {
			d, want := ite.New(v, b), node.New(v, b)
			if d == nil {
				t.Fatalf("no diagrams of %d, %d", v, b)
			}
			asTable(t, "new", d, want)
			for _, parts := range [][3]int{{0, 0, 1}, {60, 0, 1}, {61, 0, 1}, {0, 1, 0}, {0, 0, 1}, {2, 1, 0}, {1, 2, 4}, {0, 3, 4}} {
				wanted, _ := want.Make(parts[0], parts[1], parts[2])
				if got := d.Make(parts[0], parts[1], parts[2]); got != wanted {
					t.Errorf("%d, %d: Make(%v) is %d, not %d", v, b, parts, got, wanted)
				}
				asTable(t, "with some nodes", d, want)
			}
			if d.Calls() != 0 {
				t.Errorf("Make counts: %d", d.Calls())
			}
		}
	}
}

// TestP16_1Nil: what nil has is as of New(0, 0), and whatever it is to make is 0.
func TestP16_1Nil(t *testing.T) {
	var none *ite.BDD
	for range 2 {
		asTable(t, "nil", none, node.New(0, 0))
		for _, f := range append(outside(0), 0, 1) {
			for _, g := range []int{0, 1, f} {
				for _, c := range made {
					if n := c.of(none, f, g, 1); n != 0 {
						t.Errorf("nil: %s of %d, %d is %d", c.name, f, g, n)
					}
				}
				if n := none.Make(0, f, g); n != 0 {
					t.Errorf("nil: Make of %d, %d is %d", f, g, n)
				}
			}
			if n := none.Lit(f); n != 0 {
				t.Errorf("nil: Lit(%d) is %d", f, n)
			}
		}
		if n, m := none.And(), none.Or(); n != 0 || m != 0 || none.Calls() != 0 {
			t.Errorf("nil: And is %d, Or is %d, %d calls", n, m, none.Calls())
		}
	}
	if d := ite.New(0, 0); d.And() != 1 || d.Or() != 0 || d.Not(0) != 1 || d.Ite(1, 1, 1) != 1 || d.Calls() != 2 || d.Spent() {
		t.Errorf("New(0, 0): spent %v, %d calls", d.Spent(), d.Calls())
	}
}

// TestP16_1Wrong: of a number that is no node nothing comes, and nothing is done, wherever it stands.
func TestP16_1Wrong(t *testing.T) {
	for _, vars := range []int{0, 1, 3, 61} {
		d := ite.New(vars, 100)
		last := 1
		for v := range vars {
			last = max(last, d.Lit(v))
		}
		nodes, calls := d.Len(), d.Calls()
		for _, bad := range outside(int(nodes)) {
			for _, f := range []int{bad, 0, 1, last} {
				for _, g := range []int{bad, 0, 1, last} {
					wrong(t, d, bad, f, g)
					wrong(t, d, f, bad, g)
				}
			}
		}
		if d.Len() != nodes || d.Calls() != calls {
			t.Errorf("%d variables: %d nodes, %d calls, not %d, %d", vars, d.Len(), d.Calls(), nodes, calls)
		}
	}
}

// wrong: f or g is no node.
func wrong(t *testing.T, d *ite.BDD, f, g, h int) {
	t.Helper()
	for _, c := range made {
		switch c.name {
		case "Not", "And of one", "Or of one":
			if d.Is(f) {
				continue
			}
		}
		if n := c.of(d, f, g, h); n != 0 {
			t.Errorf("%s of %d, %d, %d is %d", c.name, f, g, h, n)
		}
	}
	if n := d.Make(0, f, g); n != 0 {
		t.Errorf("Make of %d, %d is %d", f, g, n)
	}
	if d.Spent() {
		t.Fatalf("spent by %d, %d, %d", f, g, h)
	}
}

// TestP16_2Told: the chapter's example, and some more.
func TestP16_2Told(t *testing.T) {
	d := ite.New(3, 100)
	a, b, c := d.Lit(0), d.Lit(1), d.Lit(2)
	for _, x := range []struct {
		what      string
		got, want int
	}{
		{"And(a, Not(a))", d.And(a, d.Not(a)), 0},
		{"Or(a, Not(a))", d.Or(a, d.Not(a)), 1},
		{"Xor(a, a)", d.Xor(a, a), 0},
		{"Xor(a, Not(a))", d.Xor(a, d.Not(a)), 1},
		{"Xor(b, 1)", d.Xor(b, 1), d.Not(b)},
		{"Xor(0, b)", d.Xor(0, b), b},
		{"Less(a, a)", d.Less(a, a), 0},
		{"Less(a, 1)", d.Less(a, 1), d.Not(a)},
		{"Less(1, a)", d.Less(1, a), 0},
		{"Less(0, a)", d.Less(0, a), a},
		{"Less(a, b)", d.Less(a, b), d.And(d.Not(a), b)},
		{"Not(Not(b))", d.Not(d.Not(b)), b},
		{"Not(0)", d.Not(0), 1},
		{"Not(1)", d.Not(1), 0},
		{"And()", d.And(), 1},
		{"Or()", d.Or(), 0},
		{"And(c)", d.And(c), c},
		{"Or(c)", d.Or(c), c},
		{"And(a, b, c)", d.And(a, b, c), d.And(c, d.And(b, a))},
		{"Or(a, b, c)", d.Or(a, b, c), d.Not(d.And(d.Not(a), d.Not(b), d.Not(c)))},
		{"And(a, b, 0)", d.And(a, b, 0), 0},
		{"Or(1, b, c)", d.Or(1, b, c), 1},
		{"Ite(a, b, c)", d.Ite(a, b, c), d.Or(d.And(a, b), d.Less(a, c))},
		{"Ite(c, a, b)", d.Ite(c, a, b), d.Xor(d.And(c, a), d.Less(c, b))},
		{"Ite(a, 1, 0)", d.Ite(a, 1, 0), a},
		{"Ite(a, 0, 1)", d.Ite(a, 0, 1), d.Not(a)},
		{"Ite(1, b, c)", d.Ite(1, b, c), b},
		{"Ite(0, b, c)", d.Ite(0, b, c), c},
		{"Make(1, 0, 1)", d.Make(1, 0, 1), b},
		{"Make(0, c, 1)", d.Make(0, c, 1), d.Or(c, a)},
		{"Make(0, b, b)", d.Make(0, b, b), b},
		{"Make(1, b, c)", d.Make(1, b, c), 0},
		{"Make(2, 0, b)", d.Make(2, 0, b), 0},
		{"Make(3, 0, 1)", d.Make(3, 0, 1), 0},
		{"Make(-1, 0, 1)", d.Make(-1, 0, 1), 0},
		{"Lit(3)", d.Lit(3), 0},
		{"Lit(-1)", d.Lit(-1), 0},
		{"Lit(MaxInt)", d.Lit(math.MaxInt), 0},
		{"Lit(MinInt)", d.Lit(math.MinInt), 0},
		{"Lit(2)", d.Lit(2), c},
	} {
		if x.got != x.want {
			t.Errorf("%s is %d, not %d", x.what, x.got, x.want)
		}
	}
	if d.Spent() {
		t.Error("spent")
	}
}

// TestP16_2Variables: the last variable that there may be, and the one behind it.
func TestP16_2Variables(t *testing.T) {
	d := ite.New(api.MaxBits, 100)
	last, first := d.Lit(api.MaxBits-1), d.Lit(0)
	each := d.And(first, last)
	for _, bits := range []uint64{0, 1, 1 << 60, 1<<60 | 1, math.MaxUint64, math.MaxUint64 &^ (1 << 60), 1 << 61, 3 << 61} {
		was, will := bits&1 == 1, bits>>60&1 == 1
		if d.At(first, bits) != was || d.At(last, bits) != will || d.At(each, bits) != (was && will) {
			t.Errorf("at %b: %v, %v, %v", bits, d.At(first, bits), d.At(last, bits), d.At(each, bits))
		}
	}
	if n := d.Lit(api.MaxBits); n != 0 || d.Len() != 3 || d.Spent() || d.Calls() != 5 {
		t.Errorf("Lit beyond is %d: %d nodes, %d calls", n, d.Len(), d.Calls())
	}
}

// TestP16_3Counted: what each call counts, of nodes, and of whatever variable.
func TestP16_3Counted(t *testing.T) {
	d := ite.New(3, 1000)
	if d.Calls() != 0 {
		t.Errorf("new: %d", d.Calls())
	}
	var want int64
	counted := func(what string, n int64) {
		t.Helper()
		if want += n; d.Calls() != want {
			t.Errorf("%s: %d calls, not %d", what, d.Calls(), want)
			want = d.Calls()
		}
	}
	for _, v := range []int{0, 1, 2, 2, 3, -1, math.MaxInt, math.MinInt} {
		d.Lit(v)
		counted("Lit", 1)
	}
	for f := range int(d.Len()) + 2 {
		for _, c := range made {
			c.of(d, f, 3, 2)
			counted(c.name, c.counts)
			c.of(d, 1, f, f)
			counted(c.name+", of 1 and twice the same", c.counts)
		}
		d.Make(0, 3, f)
		counted("Make", 0)
	}
	d.And()
	counted("And of none", 0)
	d.Or()
	counted("Or of none", 0)
	d.And(make([]int, 1000)...)
	counted("And of 1000", 1000)
	d.Or(make([]int, 999)...)
	counted("Or of 999", 999)
	d.Made(2)
	d.Is(2)
	d.At(2, 1)
	d.Len()
	d.Vars()
	d.Spent()
	d.Calls()
	counted("what asks alone", 0)
}

// TestP16_1Apart: what one has isn't in another one.
func TestP16_1Apart(t *testing.T) {
	a, b := ite.New(3, 1), ite.New(4, 100)
	b.Lit(3)
	last := b.Lit(0)
	a.Lit(2)
	a.Lit(0)
	if !a.Spent() || b.Spent() || a.Len() != 1 || b.Len() != 2 || a.Calls() != 2 || b.Calls() != 2 || a.Vars() != 3 || b.Vars() != 4 {
		t.Errorf("%v, %v: %d and %d nodes, %d and %d calls", a.Spent(), b.Spent(), a.Len(), b.Len(), a.Calls(), b.Calls())
	}
	if n := b.And(last, 2); b.At(n, 1) || !b.At(n, 9) {
		t.Errorf("And is %d", n)
	}
	c := ite.New(4, 100)
	c.Lit(0)
	c.Lit(1)
	if n := c.And(3, 2); n == 0 || c.At(n, 9) || !c.At(n, 3) {
		t.Errorf("And of others by the same numbers is %d", n)
	}
}

// play makes drawn calls, of diagrams that it made, and answers them, with how many nodes there were after each.
func play(d *ite.BDD, seed, calls int) ([]int, []int64) {
	dice, l := plain.Dice(seed), []int{0, 1}
	var lens []int64
	for range calls {
		one := func() int { return l[dice.Below(len(l))] }
		f, g, h := one(), one(), one()
		n := 0
		if i := dice.Below(len(made) + 4); i < len(made) {
			n = made[i].of(d, f, g, h)
		} else {
			n = d.Lit(dice.Below(d.Vars()))
		}
		l, lens = append(l, n), append(lens, d.Len())
	}
	return l[2:], lens
}

// TestP16_1Budget: with a budget that is enough all is as with the greatest one; the first call that asks for more answers 0, and d is spent; after that nothing panics.
func TestP16_1Budget(t *testing.T) {
	const calls = 60
	for seed := range 12 {
		free := ite.New(5, api.MaxBudget)
		want, lens := play(free, seed, calls)
		for budget := range free.Len() + 2 {
			d := ite.New(5, budget)
			got, had := play(d, seed, calls)
			for i := range calls {
				if lens[i] > budget {
					if got[i] != 0 {
						t.Errorf("budget %d: call %d of %d nodes answers %d", budget, i, lens[i], got[i])
					}
					break
				}
				if got[i] != want[i] || had[i] != lens[i] {
					t.Errorf("budget %d: call %d answers %d, with %d nodes, not %d, %d", budget, i, got[i], had[i], want[i], lens[i])
				}
			}
			if spent := budget < free.Len(); d.Spent() != spent || d.Len() > budget {
				t.Errorf("budget %d: spent %v, %d nodes, where %d are enough", budget, d.Spent(), d.Len(), free.Len())
			}
		}
	}
}

// TestP16_1Spent: what is spent stays so, and whatever it is asked doesn't panic, and ends.
func TestP16_1Spent(t *testing.T) {
	for budget := range int64(6) {
		d := ite.New(61, budget)
		for v := range 61 {
			d.Lit(60 - v)
		}
		for _, f := range append(outside(int(d.Len())), 0, 1, 2, 3, 4, 5, 6, 7) {
			for g := range 8 {
				for _, c := range made {
					c.of(d, f, g, 1)
					c.of(d, g, 0, f)
				}
				d.Make(f, g, f)
				d.Lit(f)
				d.Lit(g)
				d.Made(f)
				d.At(f, 5)
			}
		}
		d.And()
		d.Or()
		if !d.Spent() || d.Len() > budget || d.Vars() != 61 {
			t.Errorf("budget %d: spent %v, %d nodes, %d variables", budget, d.Spent(), d.Len(), d.Vars())
		}
	}
}

// TestP16_1Exact: calls that are simple ask for no more nodes than they answer with.
func TestP16_1Exact(t *testing.T) {
	for _, x := range []struct {
		what   string
		vars   int
		budget int64
		last   func(d *ite.BDD, lits []int) int
	}{
		{"And of all, rising", 61, 61 + 60, func(d *ite.BDD, lits []int) int { return d.And(lits...) }},
		{"Or of all, rising", 61, 61 + 60, func(d *ite.BDD, lits []int) int { return d.Or(lits...) }},
		{"Not", 1, 2, func(d *ite.BDD, lits []int) int { return d.Not(lits[0]) }},
		{"Xor", 2, 4, func(d *ite.BDD, lits []int) int { return d.Xor(lits[1], lits[0]) }},
		{"Less", 2, 3, func(d *ite.BDD, lits []int) int { return d.Less(lits[0], lits[1]) }},
		{"Ite", 3, 4, func(d *ite.BDD, lits []int) int { return d.Ite(lits[0], lits[1], lits[2]) }},
	} {
		for less := range int64(2) {
			d := ite.New(x.vars, x.budget-less)
			var lits []int
			for v := range x.vars {
				lits = append(lits, d.Lit(v))
			}
			if n := x.last(d, lits); (n == 0) != (less == 1) || d.Spent() != (less == 1) {
				t.Errorf("%s, with %d nodes: %d, spent %v", x.what, x.budget-less, n, d.Spent())
			}
		}
	}
}
