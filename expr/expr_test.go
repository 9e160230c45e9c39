package expr_test

import (
	"math"
	"slices"
	"testing"

	"crupper/api"
	"crupper/expr"
	"crupper/ite"
	"crupper/plain"
)

// chain is so many steps, each of which isn't the one ahead of it; the first one is the variable 0.
func chain(steps int) []expr.Step {
	l := []expr.Step{{Op: expr.Lit}}
	for len(l) < steps {
		l = append(l, expr.Step{Op: expr.Not, A: len(l) - 1})
	}
	return l
}

// TestP19_1Told: the ops' numbers, the chapter's example, and the edges that it names.
func TestP19_1Told(t *testing.T) {
	lit, not, and, or, xor := expr.Lit, expr.Not, expr.And, expr.Or, expr.Xor
	if l := []int{lit, not, and, or, xor, expr.True, expr.False}; !slices.Equal(l, []int{1, 2, 3, 4, 5, 6, 7}) {
		t.Errorf("the ops are %v", l)
	}
	a := expr.Step{Op: lit}
	for _, x := range []struct {
		vars int
		l    []expr.Step
		want bool
	}{
		{1, []expr.Step{a, {Op: not}, {Op: and, A: 0, B: 1}}, true},
		{0, nil, false},
		{3, []expr.Step{}, false},
		{0, []expr.Step{{Op: expr.True}}, true},
		{0, []expr.Step{{Op: expr.False}}, true},
		{0, []expr.Step{a}, false},
		{1, []expr.Step{a}, true},
		{-1, []expr.Step{{Op: expr.True}}, false},
		{61, []expr.Step{a}, true},
		{62, []expr.Step{a}, false},
		{math.MaxInt, []expr.Step{a}, false},
		{math.MinInt, []expr.Step{{Op: expr.True}}, false},
		{61, []expr.Step{{Op: lit, A: 60}}, true},
		{61, []expr.Step{{Op: lit, A: 61}}, false},
		{60, []expr.Step{{Op: lit, A: 60}}, false},
		{1, []expr.Step{{Op: lit, A: -1}}, false},
		{2, []expr.Step{{Op: lit, A: 1, B: 1}}, false},
		{1, []expr.Step{{Op: not}}, false},
		{1, []expr.Step{a, {Op: not, A: 1}}, false},
		{1, []expr.Step{a, {Op: not, B: 1}}, false},
		{1, []expr.Step{{Op: and}}, false},
		{1, []expr.Step{a, {Op: and}}, true},
		{1, []expr.Step{a, a, {Op: or, A: 1}}, true},
		{1, []expr.Step{a, a, {Op: or, A: 1, B: 2}}, false},
		{1, []expr.Step{a, a, {Op: xor, A: 2, B: 1}}, false},
		{1, []expr.Step{a, a, {Op: xor, A: -1, B: 1}}, false},
		{1, []expr.Step{a, {Op: expr.True, A: 1}}, false},
		{1, []expr.Step{a, {Op: expr.False, B: 1}}, false},
		{1, []expr.Step{a, {}}, false},
		{1, []expr.Step{a, {Op: 8}}, false},
		{1, []expr.Step{{Op: -1}, a}, false},
		{1, chain(1000), true},
		{1, chain(1001), false},
		{1, make([]expr.Step, 5000), false},
	} {
		if expr.Right(x.vars, x.l...) != x.want || right(x.vars, x.l) != x.want {
			t.Errorf("of %d variables %v: %v, by the words %v", x.vars, x.l[:min(len(x.l), 9)], !x.want, right(x.vars, x.l))
		}
	}
}

// TestP19_1Strange: a number that may not be, in the place of one that may, wherever it stands.
func TestP19_1Strange(t *testing.T) {
	base := []expr.Step{{Op: expr.Lit, A: 2}, {Op: expr.Not}, {Op: expr.And, A: 1}, {Op: expr.Or, A: 2, B: 1}, {Op: expr.Xor, A: 3, B: 3}, {Op: expr.True}, {Op: expr.False}}
	if !expr.Right(3, base...) {
		t.Fatal("it isn't right as it stands")
	}
	for place := range base {
		for _, n := range append(strange(len(base)), 1, 2, 3, 4, 5, 6) {
			for field := range 3 {
				l := slices.Clone(base)
				*[]*int{&l[place].Op, &l[place].A, &l[place].B}[field] = n
				want := right(3, l)
				if expr.Right(3, l...) != want {
					t.Errorf("%v: %v", l, !want)
				}
				if _, ok := expr.At(3, 5, l...); ok != want {
					t.Errorf("%v: At says %v", l, ok)
				}
				if _, _, ok := expr.Equal(3, l, base); ok != want {
					t.Errorf("%v: Equal says %v", l, ok)
				}
				if _, _, ok := expr.Equal(3, base, l); ok != want {
					t.Errorf("%v: Equal says %v, turned", l, ok)
				}
				if !want {
					unbuilt(t, ite.New(3, 100), l)
				}
				expr.Depth(l...) // of what isn't right nothing is promised but an end
			}
		}
	}
}

// TestP19_1All: all rows of at most two steps of small numbers.
func TestP19_1All(t *testing.T) {
	var steps []expr.Step
	for op := range 10 {
		for a := range 4 {
			for b := range 4 {
				steps = append(steps, expr.Step{Op: op - 1, A: a - 1, B: b - 1})
			}
		}
	}
	for vars := range 4 {
		for _, s := range steps {
			if l := []expr.Step{s}; expr.Right(vars, l...) != right(vars, l) {
				t.Errorf("of %d variables %v: %v", vars, l, !right(vars, l))
			}
			for _, next := range steps {
				if l := []expr.Step{s, next}; expr.Right(vars, l...) != right(vars, l) {
					t.Errorf("of %d variables %v: %v", vars, l, !right(vars, l))
				}
			}
		}
	}
}

// TestP19_1Depth: of the last step, whatever stands ahead of it.
func TestP19_1Depth(t *testing.T) {
	a := expr.Step{Op: expr.Lit, A: 60}
	for _, x := range []struct {
		want int
		l    []expr.Step
	}{
		{0, nil},
		{1, []expr.Step{a}},
		{1, []expr.Step{{Op: expr.True}}},
		{1, []expr.Step{{Op: expr.False}}},
		{1, []expr.Step{a, {Op: expr.Not}, a}},
		{1, []expr.Step{a, {Op: expr.Not}, {Op: expr.False}}},
		{2, []expr.Step{a, {Op: expr.Not}}},
		{2, []expr.Step{a, {Op: expr.Not}, {Op: expr.Not}}},
		{3, []expr.Step{a, {Op: expr.Not}, {Op: expr.Not, A: 1}}},
		{3, []expr.Step{a, {Op: expr.Not}, {Op: expr.And, A: 1}}},
		{3, []expr.Step{a, {Op: expr.Not}, {Op: expr.Or, B: 1}}},
		{2, []expr.Step{a, {Op: expr.Not}, {Op: expr.Xor}}},
		{1000, chain(1000)},
	} {
		if n := expr.Depth(x.l...); n != x.want {
			t.Errorf("%v: %d, not %d", x.l[:min(len(x.l), 9)], n, x.want)
		}
	}
	dice := plain.Dice(191)
	for range 2000 {
		if l := formula(&dice, 61, 16); expr.Depth(l...) != depth(l, len(l)-1) {
			t.Errorf("%v: %d, not %d", l, expr.Depth(l...), depth(l, len(l)-1))
		}
	}
}

// TestP19_2At: drawn formulas at all bits, and what stands above those of the variables.
func TestP19_2At(t *testing.T) {
	dice := plain.Dice(192)
	for i := range 1000 {
		vars := i % 6
		l := formula(&dice, vars, 20)
		for bits, want := range row(vars, l) {
			for _, above := range []uint64{0, 1 << vars, 1 << 63, math.MaxUint64 << vars} {
				if is, ok := expr.At(vars, uint64(bits)|above, l...); is != (want == '1') || !ok {
					t.Fatalf("%v at %b: %v, %v", l, uint64(bits)|above, is, ok)
				}
			}
		}
	}
	for _, x := range []struct {
		vars int
		l    []expr.Step
	}{{0, nil}, {-1, []expr.Step{{Op: expr.True}}}, {62, []expr.Step{{Op: expr.True}}}, {3, []expr.Step{{Op: expr.Lit, A: 3}}}, {1, chain(1001)}} {
		if is, ok := expr.At(x.vars, math.MaxUint64, x.l...); is || ok {
			t.Errorf("%d, %v: %v, %v", x.vars, x.l[:min(len(x.l), 9)], is, ok)
		}
	}
	if is, ok := expr.At(1, 1, chain(1000)...); is || !ok {
		t.Errorf("not, 999 times: %v, %v", is, ok)
	}
}

// TestP19_2Last: at each of the variables that there may be.
func TestP19_2Last(t *testing.T) {
	d := ite.New(api.MaxBits, 1000)
	for v := range api.MaxBits {
		l := []expr.Step{{Op: expr.Lit, A: v}}
		if f, ok := expr.Build(d, l...); f != d.Lit(v) || !ok {
			t.Errorf("%d is built as %d, %v", v, f, ok)
		}
		for _, bits := range []uint64{0, 1 << v, math.MaxUint64, math.MaxUint64 &^ (1 << v)} {
			if is, ok := expr.At(api.MaxBits, bits, l...); is != (bits>>v&1 == 1) || !ok {
				t.Errorf("%d at %b: %v, %v", v, bits, is, ok)
			}
		}
	}
}
