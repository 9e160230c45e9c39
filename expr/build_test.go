package expr_test

import (
	"math/bits"
	"slices"
	"testing"

	"crupper/api"
	"crupper/expr"
	"crupper/ite"
	"crupper/plain"
)

// TestP19_2Build: drawn formulas are built as the diagrams that are true where they are.
func TestP19_2Build(t *testing.T) {
	dice := plain.Dice(1920)
	for i := range 1500 {
		vars := i % 8
		l := formula(&dice, vars, 25)
		before := slices.Clone(l)
		d := ite.New(vars, api.MaxBudget)
		f, ok := expr.Build(d, l...)
		if want := plain.Diagram(row(vars, l), d.Make); f != want || !ok || d.Spent() {
			t.Fatalf("%v is built as %d, %v, not %d", l, f, ok, want)
		}
		if again, ok := expr.Build(d, l...); again != f || !ok || !slices.Equal(l, before) {
			t.Fatalf("%v: once more it is %d, %v", before, again, ok)
		}
	}
}

// TestP19_2Told: the chapter's example, and a diagram of many steps and of many variables.
func TestP19_2Told(t *testing.T) {
	never := []expr.Step{{Op: expr.Lit}, {Op: expr.Not}, {Op: expr.And, A: 0, B: 1}}
	d := ite.New(1, 10)
	if f, ok := expr.Build(d, never...); f != 0 || !ok {
		t.Errorf("a, and not a: %d, %v", f, ok)
	}
	if same, at, ok := expr.Equal(1, never, []expr.Step{{Op: expr.False}}); !same || at != 0 || !ok {
		t.Errorf("a, and not a: never is that %v, at %d, %v", same, at, ok)
	}
	l := []expr.Step{{Op: expr.False}}
	for len(l) < 999 {
		l = append(l, expr.Step{Op: expr.Lit, A: len(l) % 61}, expr.Step{Op: expr.Xor, A: len(l), B: len(l) - 1})
	}
	d = ite.New(61, api.MaxBudget)
	f, ok := expr.Build(d, l...)
	dice := plain.Dice(61)
	for range 1000 {
		b := uint64(dice.Below(1<<31))<<31 | uint64(dice.Below(1<<31))
		want := false
		for i := 1; i < len(l); i += 2 {
			want = want != (b>>(i%61)&1 == 1)
		}
		if is, so := expr.At(61, b, l...); !ok || !so || is != want || d.At(f, b) != want {
			t.Fatalf("at %b: %v, %v, and %v, %v", b, is, so, d.At(f, b), ok)
		}
	}
}

// TestP19_2Unbuilt: of formulas that aren't right for d's variables nothing is built, and nothing is done.
func TestP19_2Unbuilt(t *testing.T) {
	for _, vars := range []int{0, 1, 3, 61} {
		d := ite.New(vars, 100)
		d.Lit(0)
		a := expr.Step{Op: expr.True}
		for _, l := range [][]expr.Step{
			nil,
			{a, {Op: expr.Lit, A: vars}},
			{a, {Op: expr.Lit, A: -1}},
			{{Op: expr.Lit, A: vars}, a},
			{a, {Op: expr.Not, A: 1}},
			{a, {Op: expr.And, A: 0, B: 1}},
			{{Op: expr.Not}, a},
			{a, {Op: 9}},
			chain(1001),
		} {
			unbuilt(t, d, l)
		}
	}
}

// TestP19_2Spent: with a budget that doesn't last, or didn't, there is none; with one that does, it is the same.
func TestP19_2Spent(t *testing.T) {
	dice := plain.Dice(1929)
	for i := range 60 {
		l := formula(&dice, 4, 25)
		free := ite.New(4, api.MaxBudget)
		want, _ := expr.Build(free, l...)
		for budget := range free.Len() + 2 {
			d := ite.New(4, budget)
			f, ok := expr.Build(d, l...)
			if lasts := budget >= free.Len(); ok != lasts || d.Spent() == lasts || lasts && f != want || !lasts && f != 0 {
				t.Errorf("%d: budget %d: %d, %v, spent %v; %d nodes are enough", i, budget, f, ok, d.Spent(), free.Len())
			}
			if d.Spent() {
				for _, l := range [][]expr.Step{l, {{Op: expr.True}}, {{Op: expr.False}}} {
					if f, ok := expr.Build(d, l...); f != 0 || ok {
						t.Errorf("spent: %v is built as %d, %v", l, f, ok)
					}
				}
			}
		}
	}
}

// TestP19_2Nil: in nil, of which the chapter doesn't speak, nothing is built.
func TestP19_2Nil(t *testing.T) {
	for _, l := range [][]expr.Step{nil, {{Op: expr.True}}, {{Op: expr.False}}, {{Op: expr.False}, {Op: expr.Not}, {Op: expr.Or, A: 1}}, {{Op: expr.Lit}}} {
		if f, ok := expr.Build(nil, l...); f != 0 || ok {
			t.Errorf("%v is built as %d, %v", l, f, ok)
		}
	}
}

// TestP19_2Equal: drawn formulas against their rows; where they aren't the same, the least bits.
func TestP19_2Equal(t *testing.T) {
	dice := plain.Dice(1921)
	unlike := 0
	for i := range 4000 {
		vars := i % 9
		a, b := formula(&dice, vars, 12), formula(&dice, vars, 12)
		x, y := row(vars, a), row(vars, b)
		var want uint64
		for want = 0; want < uint64(len(x)) && x[want] == y[want]; want++ {
		}
		if x == y {
			want = 0
		} else {
			unlike++
		}
		if same, at, ok := expr.Equal(vars, a, b); same != (x == y) || at != want || !ok {
			t.Fatalf("of %d variables %v, %v: %v, at %b, %v, not at %b", vars, a, b, same, at, ok, want)
		}
	}
	if unlike < 400 || unlike > 3600 {
		t.Errorf("%d of 4000 aren't the same", unlike)
	}
}

// TestP19_2Apart: two that differ at one place alone, of all numbers of variables.
func TestP19_2Apart(t *testing.T) {
	dice := plain.Dice(1922)
	for vars := range 17 {
		last := uint64(1)<<vars - 1
		for _, b := range []uint64{0, 1, 62, 63, 64, 65, 127, 128, last / 2, last/2 + 1, last - 1, last, uint64(dice.Below(1 << vars))} {
			b &= last
			only, none := minterm(vars, b), []expr.Step{{Op: expr.False}}
			for range 2 {
				if same, at, ok := expr.Equal(vars, only, none); same || at != b || !ok {
					t.Errorf("of %d variables, at %b: %v, %b, %v", vars, b, same, at, ok)
				}
				only, none = none, only
			}
			if same, at, ok := expr.Equal(vars, only, only); !same || at != 0 || !ok {
				t.Errorf("of %d variables, at %b: the same are %v, %b, %v", vars, b, same, at, ok)
			}
		}
	}
}

// TestP19_2Bounds: two are held against each other of at most 16 variables, and if both are right.
func TestP19_2Bounds(t *testing.T) {
	yes, no := []expr.Step{{Op: expr.True}}, []expr.Step{{Op: expr.False}}
	for _, x := range []struct {
		vars int
		a, b []expr.Step
		want bool
	}{
		{-1, yes, no, false},
		{0, yes, no, true},
		{16, yes, no, true},
		{17, yes, no, false},
		{17, yes, yes, false},
		{61, yes, no, false},
		{62, yes, yes, false},
		{1 << 62, yes, no, false},
		{-1 << 63, yes, no, false},
		{3, nil, no, false},
		{3, yes, nil, false},
		{3, nil, nil, false},
		{3, yes, []expr.Step{{Op: expr.Lit, A: 3}}, false},
		{3, []expr.Step{{Op: expr.Lit, A: 3}}, yes, false},
		{1, chain(1000), chain(1001), false},
		{1, chain(1001), chain(1000), false},
		{1, chain(1000), chain(999), true},
	} {
		if same, at, ok := expr.Equal(x.vars, x.a, x.b); same || at != 0 || ok != x.want {
			t.Errorf("%d: %v, %d, %v", x.vars, same, at, ok)
		}
	}
	if same, at, ok := expr.Equal(16, chain(1000), chain(998)); !same || at != 0 || !ok {
		t.Errorf("not, an odd number of times: %v, %d, %v", same, at, ok)
	}
}

// TestP19_3: formulas have one diagram just if they are equal.
func TestP19_3(t *testing.T) {
	dice := plain.Dice(193)
	for i := range 60 {
		vars := i % 7
		d := ite.New(vars, api.MaxBudget)
		var l [][]expr.Step
		var built []int
		for range 20 {
			l = append(l, formula(&dice, vars, 8))
			f, _ := expr.Build(d, l[len(l)-1]...)
			built = append(built, f)
		}
		for i, a := range l {
			for j, b := range l {
				if same, at, ok := expr.Equal(vars, a, b); same != (built[i] == built[j]) || !ok || !same && d.At(built[i], at) == d.At(built[j], at) {
					t.Errorf("%v, %v: %v, at %b; the diagrams %d, %d", a, b, same, at, built[i], built[j])
				}
			}
		}
	}
}

// TestP19_3Least: the least bits are those of the least where just one of both diagrams is true.
func TestP19_3Least(t *testing.T) {
	const vars = 16
	for v := range vars {
		a := []expr.Step{{Op: expr.Lit, A: v}, {Op: expr.Lit, A: (v + 5) % vars}, {Op: expr.And, A: 0, B: 1}}
		b := []expr.Step{{Op: expr.Lit, A: v}, {Op: expr.Lit, A: (v + 5) % vars}, {Op: expr.Or, A: 1, B: 0}}
		if same, at, ok := expr.Equal(vars, a, b); same || bits.OnesCount64(at) != 1 || at != 1<<min(v, (v+5)%vars) || !ok {
			t.Errorf("%d: %v, at %b, %v", v, same, at, ok)
		}
	}
}
