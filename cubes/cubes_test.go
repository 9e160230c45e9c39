package cubes_test

import (
	"math"
	"slices"
	"strings"
	"testing"

	"crupper/api"
	"crupper/cubes"
	"crupper/ite"
	"crupper/plain"
)

// all are all rows of so many numbers, each from a on, below b.
func all(n, a, b int) [][]int {
	l := [][]int{{}}
	for range n {
		var longer [][]int
		for _, row := range l {
			for told := a; told < b; told++ {
				longer = append(longer, append(slices.Clone(row), told))
			}
		}
		l = longer
	}
	return l
}

// right goes by the words.
func right(vars int, c []int) bool {
	for _, told := range c {
		if told < -1 || told > 1 {
			return false
		}
	}
	return vars >= 0 && vars <= 61 && len(c) == vars
}

// so: are the variables at these bits as the cube tells?
func so(c []int, bits uint64) bool {
	for v, told := range c {
		if told != -1 && int(bits>>v&1) != told {
			return false
		}
	}
	return true
}

// row tells at which bits one of these cubes is true.
func row(vars int, l ...[]int) string {
	return plain.Row(vars, func(bits int) bool {
		return slices.ContainsFunc(l, func(c []int) bool { return so(c, uint64(bits)) })
	})
}

// drawn draws a cube.
func drawn(dice *plain.Dice, vars int) []int {
	c, often := make([]int, vars), 2+dice.Below(8)
	for v := range c {
		c[v] = max(-1, 1-dice.Below(often))
	}
	return c
}

// alike is a cube of so many variables, of which it tells the same.
func alike(vars, told int) []int { return slices.Repeat([]int{told}, vars) }

// TestP38_1Right: of all rows of few numbers, and of the most variables that there may be.
func TestP38_1Right(t *testing.T) {
	for n := range 5 {
		for _, c := range all(n, -2, 3) {
			for vars := -2; vars < n+3; vars++ {
				if cubes.Right(vars, c) != right(vars, c) {
					t.Errorf("of %d variables %v: %v", vars, c, !right(vars, c))
				}
			}
		}
	}
	for _, told := range []int{-1, 0, 1} {
		for vars := range 70 {
			if c := alike(vars, told); cubes.Right(vars, c) != (vars <= api.MaxBits) || cubes.Right(vars+1, c) || cubes.Right(vars-1, c) {
				t.Errorf("of %d variables %v", vars, c)
			}
		}
		for v := range 61 {
			for _, wrong := range []int{math.MinInt, -1 << 32, -2, 2, 3, '0', '1', '-', 1 << 32, 1<<32 + 1, math.MaxInt} {
				c := alike(61, told)
				if c[v] = wrong; cubes.Right(61, c) || cubes.Print(c) != "" {
					t.Errorf("%v is right", c)
				}
			}
		}
	}
	for _, vars := range []int{math.MinInt, 1 << 32, math.MaxInt} {
		if cubes.Right(vars, nil) || cubes.Right(vars, []int{1}) {
			t.Errorf("%d variables", vars)
		}
	}
}

// TestP38_1Diagram: all cubes of few variables, and drawn ones of many.
func TestP38_1Diagram(t *testing.T) {
	for vars := range 5 {
		d := ite.New(vars, api.MaxBudget)
		for _, c := range all(vars, -1, 2) {
			if f, ok := cubes.Diagram(d, c); f != plain.Diagram(row(vars, c), d.Make) || !ok {
				t.Errorf("%v: %d, %v", c, f, ok)
			}
		}
	}
	dice := plain.Dice(381)
	for i := range 300 {
		vars := i % 62
		d := ite.New(vars, int64(vars))
		c := drawn(&dice, vars)
		before := slices.Clone(c)
		want := 1
		free := ite.New(vars, api.MaxBudget)
		for v, told := range c {
			switch told {
			case 0:
				want = free.And(want, free.Not(free.Lit(v)))
			case 1:
				want = free.And(want, free.Lit(v))
			}
		}
		f, ok := cubes.Diagram(d, c)
		if same, _ := cubes.Diagram(free, c); same != want || !ok || !slices.Equal(c, before) {
			t.Errorf("%v: %d, not %d; %d, %v", before, same, want, f, ok)
		}
		for range 30 {
			b := uint64(dice.Below(1<<31))<<30 | uint64(dice.Below(1<<30))
			for v, told := range c { // near the cube
				if told >= 0 && dice.Below(40) > 0 {
					b = b&^(1<<v) | uint64(told)<<v
				}
			}
			if d.At(f, b) != so(c, b) {
				t.Errorf("%v: %d is %v at %b", c, f, !so(c, b), b)
			}
		}
	}
}

// TestP38_1Union: drawn cubes, of none, too, and twice the same ones.
func TestP38_1Union(t *testing.T) {
	dice := plain.Dice(3810)
	for i := range 1000 {
		vars := i % 8
		d := ite.New(vars, api.MaxBudget)
		var l [][]int
		for range dice.Below(7) {
			l = append(l, drawn(&dice, vars))
		}
		if len(l) > 2 {
			l = append(l, l[0])
		}
		if f, ok := cubes.Union(d, l...); f != plain.Diagram(row(vars, l...), d.Make) || !ok {
			t.Fatalf("%v: %d, %v", l, f, ok)
		}
	}
	d := ite.New(2, 10)
	if f, ok := cubes.Union(d, []int{1, -1}, []int{-1, 1}); f != d.Or(d.Lit(0), d.Lit(1)) || !ok {
		t.Errorf("1- and -1: %d, %v", f, ok)
	}
	if f, ok := cubes.Union(d); f != 0 || !ok {
		t.Errorf("of none: %d, %v", f, ok)
	}
	d = ite.New(0, 0)
	if f, ok := cubes.Union(d, nil, []int{}); f != 1 || !ok || d.Spent() {
		t.Errorf("of no variables: %d, %v", f, ok)
	}
	if f, ok := cubes.Diagram(d, nil); f != 1 || !ok {
		t.Errorf("of no variables: %d, %v", f, ok)
	}
}

// TestP38_1Wrong: of cubes that aren't right for d's variables, wherever they stand, nothing is made.
func TestP38_1Wrong(t *testing.T) {
	for _, vars := range []int{0, 1, 3, 61} {
		d := ite.New(vars, 1000)
		d.Lit(0)
		nodes, calls := d.Len(), d.Calls()
		good := alike(vars, 1)
		bad := [][]int{alike(vars+1, 1), alike(vars+1, -1), alike(2*vars+1, 0), alike(64, -1)}
		for v := range vars {
			for _, wrong := range []int{math.MinInt, -2, 2, math.MaxInt} {
				c := alike(vars, -1)
				c[v] = wrong
				bad = append(bad, c)
			}
		}
		if vars > 0 {
			bad = append(bad, nil, alike(vars-1, 1))
		}
		for _, c := range bad {
			if f, ok := cubes.Diagram(d, c); f != 0 || ok {
				t.Errorf("of %d variables %v: %d, %v", vars, c, f, ok)
			}
			for _, l := range [][][]int{{c}, {c, good}, {good, c}, {good, c, good}} {
				if f, ok := cubes.Union(d, l...); f != 0 || ok {
					t.Errorf("of %d variables %v: %d, %v", vars, l, f, ok)
				}
			}
		}
		if d.Len() != nodes || d.Calls() != calls || d.Spent() {
			t.Errorf("of %d variables: %d nodes, not %d", vars, d.Len(), nodes)
		}
	}
}

// TestP38_1Spent: with a budget that doesn't last, or didn't, there is none; with one that does, it is the same.
func TestP38_1Spent(t *testing.T) {
	dice := plain.Dice(3811)
	for range 50 {
		l := [][]int{drawn(&dice, 5), drawn(&dice, 5), drawn(&dice, 5), drawn(&dice, 5)}
		free := ite.New(5, api.MaxBudget)
		want, _ := cubes.Union(free, l...)
		lasted := false
		for budget := range free.Len() + 2 {
			d := ite.New(5, budget)
			f, ok := cubes.Union(d, l...)
			if ok == d.Spent() || ok && f != want || !ok && f != 0 {
				t.Errorf("%v: budget %d: %d, %v, spent %v, not %d", l, budget, f, ok, d.Spent(), want)
			}
			lasted = ok
			if d.Spent() {
				if f, ok := cubes.Union(d); f != 0 || ok {
					t.Errorf("spent: %d, %v", f, ok)
				}
				if f, ok := cubes.Diagram(d, alike(5, -1)); f != 0 || ok {
					t.Errorf("spent: %d, %v", f, ok)
				}
			}
		}
		if !lasted {
			t.Errorf("%v: %d nodes aren't enough", l, free.Len())
		}
		c := l[0]
		for budget := range int64(7) {
			d := ite.New(5, budget)
			if f, ok := cubes.Diagram(d, c); ok != (budget >= int64(cubes.Literals(c))) || d.Spent() == ok || !ok && f != 0 {
				t.Errorf("%v: budget %d: %d, %v, spent %v", c, budget, f, ok, d.Spent())
			}
		}
	}
}

// TestP38_1Inside: of all pairs of cubes of few variables: inside just if the one is nowhere true but where the other one is.
func TestP38_1Inside(t *testing.T) {
	for n := range 4 {
		for m := range 4 {
			for _, a := range all(n, -1, 2) {
				for _, b := range all(m, -1, 2) {
					want := n == m
					for bits := range uint64(1) << n {
						want = want && (!so(a, bits) || so(b, bits))
					}
					if cubes.Inside(a, b) != want {
						t.Errorf("%v inside %v: %v", a, b, !want)
					}
				}
			}
		}
	}
	dice := plain.Dice(3812)
	for i := range 500 {
		vars := i % 62
		a := drawn(&dice, vars)
		b := slices.Clone(a)
		for v := range b {
			if dice.Below(2) == 0 {
				b[v] = -1
			}
		}
		if !cubes.Inside(a, b) || !cubes.Inside(a, a) || cubes.Inside(b, a) != slices.Equal(a, b) || cubes.Inside(a, append(slices.Clone(b), -1)) || cubes.Inside(append(slices.Clone(a), -1), b) {
			t.Errorf("%v, %v", a, b)
		}
	}
}

// TestP38_1Literals: what is told, of all cubes together.
func TestP38_1Literals(t *testing.T) {
	for _, x := range []struct {
		want int
		l    [][]int
	}{
		{0, nil},
		{0, [][]int{{}, nil}},
		{0, [][]int{{-1, -1}}},
		{1, [][]int{{0}}},
		{1, [][]int{{1}}},
		{2, [][]int{{0, -1, 1}}},
		{5, [][]int{{0, -1, 1}, {}, {1, 1, 1}}},
		{4, [][]int{{0, 0}, {0, 0}}},
		{61, [][]int{alike(61, 1), alike(61, -1)}},
	} {
		if n := cubes.Literals(x.l...); n != x.want {
			t.Errorf("%v: %d, not %d", x.l, n, x.want)
		}
	}
}

// TestP38_1Print: all cubes of few variables are printed, and read again; what is none isn't.
func TestP38_1Print(t *testing.T) {
	for n := range 5 {
		for _, c := range all(n, -2, 3) {
			var want strings.Builder
			for _, told := range c {
				want.WriteByte("-01"[max(0, min(told+1, 2))])
			}
			if !right(n, c) {
				want.Reset()
			}
			text := cubes.Print(c)
			if text != want.String() {
				t.Errorf("%v is %q, not %q", c, text, want.String())
			}
			if back, ok := cubes.Read(text); right(n, c) && (!ok || !slices.Equal(back, c)) {
				t.Errorf("%v is %q, and that is %v, %v", c, text, back, ok)
			}
		}
	}
	dice := plain.Dice(3813)
	for vars := range 70 {
		c := drawn(&dice, vars)
		text := cubes.Print(c)
		if back, ok := cubes.Read(text); vars <= 61 && (!ok || !slices.Equal(back, c)) || vars > 61 && text != "" {
			t.Errorf("%v is %q, and that is %v, %v", c, text, back, ok)
		}
		if back, ok := cubes.Read(strings.Repeat("-", vars)); ok != (vars <= 61) || ok && !slices.Equal(back, alike(vars, -1)) || !ok && len(back) != 0 {
			t.Errorf("of %d times either %v, %v", vars, back, ok)
		}
	}
}

// TestP38_1Read: all texts of few bytes, and one byte that is wrong, wherever it stands.
func TestP38_1Read(t *testing.T) {
	tells := func(b byte) (int, bool) {
		switch b {
		case '0':
			return 0, true
		case '1':
			return 1, true
		}
		return -1, b == '-'
	}
	reads := func(text string) {
		t.Helper()
		want, good := []int{}, true
		for i := range len(text) {
			told, ok := tells(text[i])
			want, good = append(want, told), good && ok
		}
		if !good {
			want = nil
		}
		if c, ok := cubes.Read(text); ok != good || !slices.Equal(c, want) {
			t.Errorf("%q is %v, %v, not %v, %v", text, c, ok, want, good)
		}
	}
	reads("")
	for a := range 256 {
		reads(string([]byte{byte(a)}))
		for _, b := range "01-+ x\n" {
			reads(string([]byte{byte(a), byte(b)}))
			reads(string([]byte{byte(b), byte(a)}))
		}
		for i := range 61 {
			text := []byte(strings.Repeat("01-", 21)[:61])
			text[i] = byte(a)
			reads(string(text))
		}
	}
	for _, text := range []string{"-1 ", " 01", "01\n", "−", "0,1", "２", strings.Repeat("0", 62), strings.Repeat("1", 100000)} {
		if c, ok := cubes.Read(text); len(c) != 0 || ok {
			t.Errorf("%q is %v, %v", text[:min(len(text), 70)], c, ok)
		}
	}
}
