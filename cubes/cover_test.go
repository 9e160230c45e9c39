package cubes_test

import (
	"math"
	"slices"
	"strings"
	"testing"

	"crupper/api"
	"crupper/cubes"
	"crupper/ite"
	"crupper/plain"
)

// covers holds cubes against the row of the function whose cover they are to be.
func covers(t *testing.T, want string, l [][]int) {
	t.Helper()
	vars := plain.Vars(want)
	counts := make([]int, len(want)) // how many cubes are true at those bits
	for _, c := range l {
		if !right(vars, c) {
			t.Fatalf("%s: %v is no cube", want, c)
		}
		for bits := range want {
			if so(c, uint64(bits)) {
				counts[bits]++
			}
		}
	}
	for bits, count := range counts {
		if (count > 0) != (want[bits] == '1') {
			t.Fatalf("%s: of %v %d are true at %b", want, l, count, bits)
		}
	}
	for _, c := range l {
		alone := false // is it needed?
		for bits := range want {
			alone = alone || so(c, uint64(bits)) && counts[bits] == 1
		}
		if !alone {
			t.Fatalf("%s: %v can be left out of %v", want, c, l)
		}
		for v := range c {
			if wider := slices.Clone(c); wider[v] != -1 {
				wider[v] = -1
				if !beyond(want, wider) {
					t.Fatalf("%s: %v is too narrow: %v would do", want, c, wider)
				}
			}
		}
	}
}

// beyond: is the cube true somewhere where the row isn't?
func beyond(row string, c []int) bool {
	for bits := range row {
		if row[bits] == '0' && so(c, uint64(bits)) {
			return true
		}
	}
	return false
}

// TestP38_2All: all functions of at most three variables, and drawn ones of four.
func TestP38_2All(t *testing.T) {
	for vars := range 4 {
		for number := range 1 << (1 << vars) {
			row := plain.Row(vars, func(bits int) bool { return number>>bits&1 == 1 })
			d := ite.New(vars, api.MaxBudget)
			l, ok := cubes.Cover(d, plain.Diagram(row, d.Make))
			if !ok {
				t.Fatalf("%s: none", row)
			}
			covers(t, row, l)
		}
	}
	dice := plain.Dice(3820)
	d := ite.New(4, api.MaxBudget)
	for range 4000 {
		number := dice.Below(1 << 16)
		row := plain.Row(4, func(bits int) bool { return number>>bits&1 == 1 })
		l, _ := cubes.Cover(d, plain.Diagram(row, d.Make))
		covers(t, row, l)
	}
}

// TestP38_2Drawn: drawn diagrams of more variables; their cover's Union is them.
func TestP38_2Drawn(t *testing.T) {
	dice := plain.Dice(382)
	for i := range 400 {
		vars := i % 10
		row := dice.Row(vars)
		d := ite.New(vars, api.MaxBudget)
		f := plain.Diagram(row, d.Make)
		l, ok := cubes.Cover(d, f)
		if !ok {
			t.Fatalf("%s: none", row)
		}
		covers(t, row, l)
		if back, ok := cubes.Union(d, l...); back != f || !ok {
			t.Errorf("%s: the union of %v is %d, %v, not %d", row, l, back, ok, f)
		}
		for _, c := range l {
			for v := range c {
				c[v] = 9
			}
		}
		again, _ := cubes.Cover(d, f)
		covers(t, row, again)
	}
}

// texts are the cubes as texts, rising.
func texts(l [][]int) string {
	var all []string
	for _, c := range l {
		all = append(all, cubes.Print(c))
	}
	slices.Sort(all)
	return strings.Join(all, " ")
}

// TestP38_2Told: the chapter's example, and functions that have one cover alone.
func TestP38_2Told(t *testing.T) {
	d := ite.New(3, 200)
	a, b, c := d.Lit(0), d.Lit(1), d.Lit(2)
	for _, x := range []struct {
		what string
		f    int
		want string
	}{
		{"0", 0, ""},
		{"1", 1, "---"},
		{"a", a, "1--"},
		{"not c", d.Not(c), "--0"},
		{"a or b", d.Or(a, b), "-1- 1--"},
		{"a and b, or c", d.Or(d.And(a, b), c), "--1 11-"},
		{"two of three", d.Or(d.And(a, b), d.And(b, c), d.And(a, c)), "-11 1-1 11-"},
		{"a xor b", d.Xor(a, b), "01- 10-"},
		{"a xor b xor c", d.Xor(a, d.Xor(b, c)), "001 010 100 111"},
		{"if a, b, else c", d.Ite(a, b, c), "0-1 11-"},
		{"a, b, c", d.And(a, b, c), "111"},
		{"not all", d.Not(d.And(a, b, c)), "--0 -0- 0--"},
	} {
		if l, ok := cubes.Cover(d, x.f); texts(l) != x.want || !ok {
			t.Errorf("%s: %s, %v, not %s", x.what, texts(l), ok, x.want)
		}
	}
	d = ite.New(2, 10)
	if l, ok := cubes.Cover(d, d.Or(d.Lit(0), d.Lit(1))); texts(l) != "-1 1-" || !ok {
		t.Errorf("Or(Lit(0), Lit(1)): %s, %v", texts(l), ok)
	}
	for budget := range int64(2) {
		d = ite.New(0, budget)
		if l, ok := cubes.Cover(d, 1); len(l) != 1 || len(l[0]) != 0 || !ok {
			t.Errorf("1 of no variables: %v, %v", l, ok)
		}
		if l, ok := cubes.Cover(d, 0); len(l) != 0 || !ok {
			t.Errorf("0 of no variables: %v, %v", l, ok)
		}
	}
}

// TestP38_2Wrong: a number that is no node has no cover, nor has a diagram once d is spent.
func TestP38_2Wrong(t *testing.T) {
	for _, vars := range []int{0, 1, 3, 61} {
		d := ite.New(vars, 100)
		d.Lit(0)
		nodes := int(d.Len())
		for _, bad := range []int{math.MinInt, math.MinInt32, -nodes - 2, -2, -1, nodes + 2, nodes + 3, nodes + 64, 1 << 32, 1<<32 + 1, math.MaxInt} {
			if l, ok := cubes.Cover(d, bad); len(l) != 0 || ok {
				t.Errorf("of %d variables %d: %v, %v", vars, bad, l, ok)
			}
		}
		if d.Len() != int64(nodes) || d.Spent() {
			t.Errorf("of %d variables: %d nodes, not %d", vars, d.Len(), nodes)
		}
	}
	d := ite.New(3, 1)
	d.Lit(0)
	d.Lit(1)
	for f := range 4 {
		if l, ok := cubes.Cover(d, f); len(l) != 0 || ok {
			t.Errorf("spent: of %d %v, %v", f, l, ok)
		}
	}
}

// TestP38_2Nil: in nil, of which the chapter doesn't speak, nothing is made.
func TestP38_2Nil(t *testing.T) {
	for _, c := range [][]int{nil, {}, {1}, {2}} {
		if f, ok := cubes.Diagram(nil, c); f != 0 || ok {
			t.Errorf("%v: %d, %v", c, f, ok)
		}
		if f, ok := cubes.Union(nil, c, c); f != 0 || ok {
			t.Errorf("%v: %d, %v", c, f, ok)
		}
	}
	if f, ok := cubes.Union(nil); f != 0 || ok {
		t.Errorf("of none: %d, %v", f, ok)
	}
	for f := range 3 {
		if l, ok := cubes.Cover(nil, f); len(l) != 0 || ok {
			t.Errorf("%d: %v, %v", f, l, ok)
		}
	}
}

// TestP38_2Spent: with a budget that doesn't last there is none; with one that does, it is a cover.
func TestP38_2Spent(t *testing.T) {
	dice := plain.Dice(3829)
	lasted, spent := 0, 0
	for range 60 {
		row := dice.Row(5)
		free := ite.New(5, api.MaxBudget)
		f := plain.Diagram(row, free.Make)
		had := free.Len()
		cubes.Cover(free, f)
		for budget := had; budget < free.Len()+2; budget++ {
			d := ite.New(5, budget)
			l, ok := cubes.Cover(d, plain.Diagram(row, d.Make))
			if ok == d.Spent() || !ok && len(l) != 0 {
				t.Errorf("%s: budget %d: %v, %v, spent %v", row, budget, l, ok, d.Spent())
			}
			if ok {
				covers(t, row, l)
				lasted++
			} else {
				spent++
			}
		}
	}
	if lasted < 60 || spent < 60 {
		t.Errorf("%d budgets lasted, %d didn't", lasted, spent)
	}
}

// TestP38_3: a cube's diagram has that cube for its cover, with as many nodes as it has.
func TestP38_3(t *testing.T) {
	holds := func(c []int) {
		t.Helper()
		d := ite.New(len(c), int64(cubes.Literals(c)))
		f, _ := cubes.Diagram(d, c)
		if l, ok := cubes.Cover(d, f); len(l) != 1 || !slices.Equal(l[0], c) || !ok {
			t.Errorf("%v: %v, %v", c, l, ok)
		}
		if l, ok := cubes.Cover(d, 0); len(l) != 0 || !ok {
			t.Errorf("0: %v, %v", l, ok)
		}
	}
	for vars := range 5 {
		for _, c := range all(vars, -1, 2) {
			holds(c)
		}
	}
	dice := plain.Dice(383)
	for i := range 300 {
		holds(drawn(&dice, i%62))
	}
}

// TestP38_2Large: of 61 variables: pairs, near and far, have the cover that they are made of.
func TestP38_2Large(t *testing.T) {
	const vars = api.MaxBits
	for _, far := range []int{1, 2, 7} {
		d := ite.New(vars, api.MaxBudget)
		var pairs [][]int
		for v := range vars - far {
			c := alike(vars, -1)
			c[v], c[v+far] = 1, 0
			if v%2 == 1 && far%2 == 0 {
				c[v], c[v+far] = 0, 1
			}
			if v%(2*far) < far { // each variable is told of once, so none of them says what others say
				pairs = append(pairs, c)
			}
		}
		f, _ := cubes.Union(d, pairs...)
		if l, ok := cubes.Cover(d, f); texts(l) != texts(pairs) || !ok {
			t.Errorf("%d apart: %v, %v", far, texts(l), ok)
		}
	}
	d := ite.New(vars, api.MaxBudget)
	var lits []int
	for v := range vars {
		lits = append(lits, d.Lit(v))
	}
	if l, ok := cubes.Cover(d, d.Or(lits...)); len(l) != vars || cubes.Literals(l...) != vars || !ok {
		t.Errorf("one of all: %v, %v", texts(l), ok)
	}
	if l, ok := cubes.Cover(d, d.Not(d.And(lits...))); len(l) != vars || cubes.Literals(l...) != vars || !ok {
		t.Errorf("not all: %v, %v", texts(l), ok)
	}
	if l, ok := cubes.Cover(d, d.And(lits...)); len(l) != 1 || !slices.Equal(l[0], alike(vars, 1)) || !ok {
		t.Errorf("all: %v, %v", texts(l), ok)
	}
}
