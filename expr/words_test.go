package expr_test

import (
	"math"
	"testing"

	"crupper/expr"
	"crupper/ite"
	"crupper/plain"
)

// strange are numbers that are none of so many, from 0 on.
func strange(count int) []int {
	return []int{math.MinInt, math.MinInt32, -64, -1, count, count + 1, count + 64, 1 << 32, math.MaxInt - 1, math.MaxInt}
}

// right goes by the words, one by one.
func right(vars int, l []expr.Step) bool {
	ok := vars >= 0 && vars <= 61 && len(l) >= 1 && len(l) <= 1000
	for place, s := range l {
		ahead := func(n int) bool { return n >= 0 && n < place }
		switch s.Op {
		case 1:
			ok = ok && s.A >= 0 && s.A < vars && s.B == 0
		case 2:
			ok = ok && ahead(s.A) && s.B == 0
		case 3, 4, 5:
			ok = ok && ahead(s.A) && ahead(s.B)
		case 6, 7:
			ok = ok && s.A == 0 && s.B == 0
		default:
			ok = false
		}
	}
	return ok
}

// says is what the step at that place says, of a formula that is right.
func says(l []expr.Step, place int, is func(v int) bool) bool {
	s := l[place]
	switch s.Op {
	case 1:
		return is(s.A)
	case 2:
		return !says(l, s.A, is)
	case 3:
		return says(l, s.A, is) && says(l, s.B, is)
	case 4:
		return says(l, s.A, is) || says(l, s.B, is)
	case 5:
		return says(l, s.A, is) != says(l, s.B, is)
	}
	return s.Op == 6
}

// row tells of a formula that is right at which bits it is true.
func row(vars int, l []expr.Step) string {
	return plain.Row(vars, func(bits int) bool {
		return says(l, len(l)-1, func(v int) bool { return plain.With(bits, v, true) == bits })
	})
}

// depth is that of the step at that place.
func depth(l []expr.Step, place int) int {
	switch s := l[place]; s.Op {
	case 2:
		return depth(l, s.A) + 1
	case 3, 4, 5:
		return max(depth(l, s.A), depth(l, s.B)) + 1
	}
	return 1
}

// formula draws one that is right, of at most so many steps, of which most stand on those just ahead of them.
func formula(dice *plain.Dice, vars, most int) []expr.Step {
	l := make([]expr.Step, 1+dice.Below(most))
	for place := range l {
		near := func() int { return max(0, place-1-dice.Below(6)) }
		switch op := 1 + dice.Below(24); {
		case op > 22:
			l[place] = expr.Step{Op: expr.True + op - 23}
		case place > 0 && op == expr.Not:
			l[place] = expr.Step{Op: op, A: near()}
		case place > 0 && op%2 == 0:
			l[place] = expr.Step{Op: expr.And + dice.Below(3), A: near(), B: near()}
		case vars > 0:
			l[place] = expr.Step{Op: expr.Lit, A: dice.Below(vars)}
		default:
			l[place] = expr.Step{Op: expr.True}
		}
	}
	return l
}

// minterm is true just at these bits.
func minterm(vars int, bits uint64) []expr.Step {
	l := []expr.Step{{Op: expr.True}}
	for v := range vars {
		last := len(l) - 1
		l = append(l, expr.Step{Op: expr.Lit, A: v})
		if bits>>v&1 == 0 {
			l = append(l, expr.Step{Op: expr.Not, A: len(l) - 1})
		}
		l = append(l, expr.Step{Op: expr.And, A: last, B: len(l) - 1})
	}
	return l
}

// unbuilt holds that nothing is built, and nothing done.
func unbuilt(t *testing.T, d *ite.BDD, l []expr.Step) {
	t.Helper()
	nodes, calls := d.Len(), d.Calls()
	if f, ok := expr.Build(d, l...); f != 0 || ok || d.Len() != nodes || d.Calls() != calls {
		t.Errorf("%v is built as %d, %v: %d nodes, not %d; %d calls, not %d", l, f, ok, d.Len(), nodes, d.Calls(), calls)
	}
}
