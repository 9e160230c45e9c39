package quant_test

import (
	"math"
	"slices"
	"testing"

	"crupper/api"
	"crupper/ite"
	"crupper/plain"
	"crupper/quant"
)

// outside are numbers that are no node, if there are n beside 0 and 1.
func outside(n int) []int {
	return []int{math.MinInt, math.MinInt + 1, math.MinInt32, -n - 2, -2, -1, n + 2, n + 3, n + 64, 1 << 32, 1<<32 + 1, math.MaxInt - 1, math.MaxInt}
}

// strange are numbers that are no variable of so many.
func strange(vars int) []int {
	return []int{math.MinInt, -1 << 32, -64, -61, -1, vars, vars + 1, vars + 61, vars + 63, vars + 64, vars + 128, 1 << 32, math.MaxInt}
}

// told is what a call answered, and what it is to answer.
type told struct {
	what      string
	got, want int
}

func hold(t *testing.T, l []told) {
	t.Helper()
	for _, x := range l {
		if x.got != x.want {
			t.Errorf("%s is %d, not %d", x.what, x.got, x.want)
		}
	}
}

// TestP17_1Told: the chapter's example, and some more.
func TestP17_1Told(t *testing.T) {
	d := ite.New(4, 200)
	a, b, c := d.Lit(0), d.Lit(1), d.Lit(2)
	na, nb := d.Not(a), d.Not(b)
	either := d.Ite(b, a, c)
	hold(t, []told{
		{"Restrict(a, 0, true)", quant.Restrict(d, a, 0, true), 1},
		{"Restrict(a, 0, false)", quant.Restrict(d, a, 0, false), 0},
		{"Restrict(a, 1, true)", quant.Restrict(d, a, 1, true), a},
		{"Restrict(a, 3, false)", quant.Restrict(d, a, 3, false), a},
		{"Restrict(either, 0, true)", quant.Restrict(d, either, 0, true), d.Or(b, c)},
		{"Restrict(either, 0, false)", quant.Restrict(d, either, 0, false), d.And(nb, c)},
		{"Restrict(either, 1, true)", quant.Restrict(d, either, 1, true), a},
		{"Restrict(either, 1, false)", quant.Restrict(d, either, 1, false), c},
		{"Restrict(either, 2, true)", quant.Restrict(d, either, 2, true), d.Or(a, nb)},
		{"Restrict(either, 2, false)", quant.Restrict(d, either, 2, false), d.And(a, b)},
		{"Restrict(a or not b, 1, true)", quant.Restrict(d, d.Or(a, nb), 1, true), a},
		{"Some(And(Lit(0), Lit(1)), 0)", quant.Some(d, d.And(a, b), 0), b},
		{"Some(a and b, 1)", quant.Some(d, d.And(a, b), 1), a},
		{"Some(a and b, 2)", quant.Some(d, d.And(a, b), 2), d.And(a, b)},
		{"Some(a and b, 1, 0)", quant.Some(d, d.And(a, b), 1, 0), 1},
		{"Some(a or b, 0)", quant.Some(d, d.Or(a, b), 0), 1},
		{"Some(either, 1)", quant.Some(d, either, 1), d.Or(a, c)},
		{"Some(either, 0, 2)", quant.Some(d, either, 0, 2), 1},
		{"Some(either, 2, 2, 9, 2, -1)", quant.Some(d, either, 2, 2, 9, 2, -1), d.Or(a, nb)},
		{"Some(either)", quant.Some(d, either), either},
		{"Some(either, nil)", quant.Some(d, either, nil...), either},
		{"Each(a and b, 0)", quant.Each(d, d.And(a, b), 0), 0},
		{"Each(a or b, 0)", quant.Each(d, d.Or(a, b), 0), b},
		{"Each(a or b, 1)", quant.Each(d, d.Or(a, b), 1), a},
		{"Each(a or b, 3)", quant.Each(d, d.Or(a, b), 3), d.Or(a, b)},
		{"Each(either, 1)", quant.Each(d, either, 1), d.And(a, c)},
		{"Each(either, 0)", quant.Each(d, either, 0), d.And(nb, c)},
		{"Each(either, 2, 0)", quant.Each(d, either, 2, 0), 0},
		{"Each(either, 3, 4, -1)", quant.Each(d, either, 3, 4, -1), either},
		{"Each(a or b or not c, 2, 0)", quant.Each(d, d.Or(a, b, d.Not(c)), 2, 0), b},
		{"Put(a, 0, b)", quant.Put(d, a, 0, b), b},
		{"Put(a, 0, not a)", quant.Put(d, a, 0, na), na},
		{"Put(a, 1, c)", quant.Put(d, a, 1, c), a},
		{"Put(a, 0, 0)", quant.Put(d, a, 0, 0), 0},
		{"Put(a, 0, 1)", quant.Put(d, a, 0, 1), 1},
		{"Put(either, 0, c)", quant.Put(d, either, 0, c), c},
		{"Put(either, 2, a)", quant.Put(d, either, 2, a), a},
		{"Put(either, 1, not b)", quant.Put(d, either, 1, nb), d.Ite(b, c, a)},
		{"Put(either, 2, either)", quant.Put(d, either, 2, either), either},
		{"Put(b and c, 2, a)", quant.Put(d, d.And(b, c), 2, a), d.And(a, b)},
		{"Put(b xor c, 1, a and c)", quant.Put(d, d.Xor(b, c), 1, d.And(a, c)), d.And(na, c)},
	})
	if d.Spent() {
		t.Error("spent")
	}
}

// TestP17_1Wrong: of numbers that are no node nothing comes, whichever variable is asked for.
func TestP17_1Wrong(t *testing.T) {
	d := ite.New(3, 100)
	f := d.Or(d.Lit(0), d.And(d.Lit(1), d.Lit(2)))
	nodes := d.Len()
	for _, bad := range outside(int(nodes)) {
		for _, v := range append(strange(3), 0, 1, 2) {
			hold(t, []told{
				{"Restrict", quant.Restrict(d, bad, v, true), 0},
				{"Restrict", quant.Restrict(d, bad, v, false), 0},
				{"Some", quant.Some(d, bad, v), 0},
				{"Some of none", quant.Some(d, bad), 0},
				{"Each", quant.Each(d, bad, 0, v), 0},
				{"Each of none", quant.Each(d, bad), 0},
				{"Put of", quant.Put(d, bad, v, f), 0},
				{"Put", quant.Put(d, f, v, bad), 0},
				{"Put in 1", quant.Put(d, 1, v, bad), 0},
				{"Put of both", quant.Put(d, bad, v, bad), 0},
				{"Put of 1", quant.Put(d, bad, v, 1), 0},
			})
		}
	}
	if d.Spent() || d.Len() != nodes {
		t.Errorf("spent %v, %d nodes, not %d", d.Spent(), d.Len(), nodes)
	}
}

// TestP17_1Strange: what isn't a variable changes nothing.
func TestP17_1Strange(t *testing.T) {
	for _, vars := range []int{0, 1, 3, 60, api.MaxBits} {
		d := ite.New(vars, api.MaxBudget)
		odd := 1
		for v := range vars {
			odd = d.Xor(odd, d.Lit(v))
		}
		nodes := d.Len()
		for _, v := range strange(vars) {
			for _, f := range []int{0, 1, odd} {
				hold(t, []told{
					{"Restrict", quant.Restrict(d, f, v, true), f},
					{"Restrict", quant.Restrict(d, f, v, false), f},
					{"Some", quant.Some(d, f, v), f},
					{"Some of all that are none", quant.Some(d, f, strange(vars)...), f},
					{"Each", quant.Each(d, f, v, v), f},
					{"Each of all that are none", quant.Each(d, f, strange(vars)...), f},
					{"Put", quant.Put(d, f, v, 0), f},
					{"Put", quant.Put(d, f, v, odd), f},
				})
			}
		}
		if d.Spent() || d.Len() != nodes {
			t.Errorf("spent %v, %d nodes, not %d", d.Spent(), d.Len(), nodes)
		}
	}
}

// some draws at most n numbers near the variables, twice the same ones, too.
func some(dice *plain.Dice, vars, n int) []int {
	var l []int
	for range dice.Below(n + 1) {
		l = append(l, dice.Below(vars+2)-1)
	}
	return l
}

// restricted is the row where v is so.
func restricted(row string, v int, so bool) string {
	vars := plain.Vars(row)
	if v < 0 || v >= vars {
		return row
	}
	return plain.Row(vars, func(bits int) bool { return row[plain.With(bits, v, so)] == '1' })
}

// joined are two rows of the same variables, put together bits by bits.
func joined(a, b string, join func(a, b bool) bool) string {
	return plain.Row(plain.Vars(a), func(bits int) bool { return join(a[bits] == '1', b[bits] == '1') })
}

func or(a, b bool) bool  { return a || b }
func and(a, b bool) bool { return a && b }

// without is the row without these variables, one by one.
func without(row string, l []int, join func(a, b bool) bool) string {
	for _, v := range l {
		row = joined(restricted(row, v, false), restricted(row, v, true), join)
	}
	return row
}

// put is the row with another one in the place of v.
func put(row string, v int, other string) string {
	vars := plain.Vars(row)
	if v < 0 || v >= vars {
		return row
	}
	return plain.Row(vars, func(bits int) bool { return row[plain.With(bits, v, other[bits] == '1')] == '1' })
}

// TestP17_1Drawn: drawn diagrams, of as many variables as there may be in a row, held against their rows.
func TestP17_1Drawn(t *testing.T) {
	dice := plain.Dice(17)
	for i := range 3000 {
		vars := i % 8
		d := ite.New(vars, api.MaxBudget)
		row, other := dice.Row(vars), dice.Row(vars)
		f, g := plain.Diagram(row, d.Make), plain.Diagram(other, d.Make)
		v, so, l := dice.Below(vars+2)-1, dice.Below(2) == 1, some(&dice, vars, vars+2)
		asked := slices.Clone(l)
		for _, x := range []struct {
			what string
			got  int
			want string
		}{
			{"Restrict", quant.Restrict(d, f, v, so), restricted(row, v, so)},
			{"Some", quant.Some(d, f, l...), without(row, l, or)},
			{"Each", quant.Each(d, f, l...), without(row, l, and)},
			{"Put", quant.Put(d, f, v, g), put(row, v, other)},
			{"Put of itself", quant.Put(d, g, v, g), put(other, v, other)},
		} {
			if n := plain.Diagram(x.want, d.Make); x.got != n {
				t.Fatalf("%s of %s, %s, %d, %v, %v is %d, not %d: %s", x.what, row, other, v, so, l, x.got, n, x.want)
			}
		}
		if d.Spent() || !slices.Equal(l, asked) {
			t.Fatalf("spent %v; asked for %v, now %v", d.Spent(), asked, l)
		}
	}
}

// TestP17_3Same: what doesn't hang on a variable stays, and Some is Not of Each of Not.
func TestP17_3Same(t *testing.T) {
	dice := plain.Dice(173)
	for i := range 2000 {
		vars := i % 7
		d := ite.New(vars, api.MaxBudget)
		f, l := plain.Diagram(dice.Row(vars), d.Make), some(&dice, vars, 3)
		hold(t, []told{
			{"Some, by Each", quant.Some(d, f, l...), d.Not(quant.Each(d, d.Not(f), l...))},
			{"Each, by Some", quant.Each(d, f, l...), d.Not(quant.Some(d, d.Not(f), l...))},
		})
		held := quant.Support(d, f)
		for v := range vars {
			if !slices.Contains(held, v) {
				hold(t, []told{
					{"Some", quant.Some(d, f, v), f},
					{"Each", quant.Each(d, f, v), f},
					{"Put", quant.Put(d, f, v, d.Lit(v)), f},
					{"Restrict", quant.Restrict(d, f, v, true), f},
				})
			} else if quant.Some(d, f, v) == f || quant.Each(d, f, v) == f {
				t.Errorf("%d hangs on %d", f, v)
			}
		}
	}
}
