package order_test

import (
	"math"
	"slices"
	"testing"

	"crupper/order"
	"crupper/plain"
)

// right goes by the words: each from 0 on stands there once, and nothing else does.
func right(vars int, l []int) bool {
	if vars < 0 || vars > 61 || len(l) != vars {
		return false
	}
	for v := range vars {
		count := 0
		for _, at := range l {
			if at == v {
				count++
			}
		}
		if count != 1 {
			return false
		}
	}
	return true
}

// rows are all rows of so many numbers, each from a on, below b.
func rows(n, a, b int) [][]int {
	l := [][]int{nil}
	for range n {
		var longer [][]int
		for _, row := range l {
			for at := a; at < b; at++ {
				longer = append(longer, append(slices.Clone(row), at))
			}
		}
		l = longer
	}
	return l
}

// shuffled draws an order.
func shuffled(dice *plain.Dice, vars int) []int {
	l := stay(vars)
	for i := range l {
		j := i + dice.Below(vars-i)
		l[i], l[j] = l[j], l[i]
	}
	return l
}

// stay is the order in which all stay.
func stay(vars int) []int {
	l := make([]int, vars)
	for v := range l {
		l[v] = v
	}
	return l
}

// TestP37_1Right: of all rows of few numbers, and of the most that there may be.
func TestP37_1Right(t *testing.T) {
	for n := range 5 {
		for _, l := range rows(n, -1, n+2) {
			for vars := -2; vars < n+3; vars++ {
				if order.Right(vars, l...) != right(vars, l) {
					t.Errorf("of %d variables %v: %v", vars, l, !right(vars, l))
				}
			}
		}
	}
	dice := plain.Dice(371)
	for range 200 {
		vars := dice.Below(62)
		l := shuffled(&dice, vars)
		if !order.Right(vars, l...) || order.Right(vars+1, l...) || order.Right(vars-1, l...) {
			t.Errorf("of %d variables %v isn't right", vars, l)
		}
		for i := range l {
			for _, at := range []int{math.MinInt, -64, -1, l[(i+1)%vars], vars, vars + 1, l[i] + 64, l[i] - 64, l[i] + 1<<32, 63, 64, math.MaxInt} {
				wrong := slices.Clone(l)
				wrong[i] = at
				if order.Right(vars, wrong...) != right(vars, wrong) {
					t.Errorf("of %d variables %v: %v", vars, wrong, !right(vars, wrong))
				}
			}
		}
	}
	for _, vars := range []int{62, 63, 64, 65, 100} {
		if order.Right(vars, stay(vars)...) {
			t.Errorf("%d variables", vars)
		}
	}
	for _, vars := range []int{math.MinInt, math.MinInt + 3, 1 << 32, math.MaxInt} {
		if order.Right(vars, 0, 1, 2) || order.Right(vars) {
			t.Errorf("%d variables", vars)
		}
	}
}

// TestP37_1Swap: of all places, and of those that there aren't.
func TestP37_1Swap(t *testing.T) {
	for vars := range 62 {
		for i := -3; i < vars+3; i++ {
			want := stay(vars)
			if i >= 0 && i+1 < vars {
				want[i], want[i+1] = i+1, i
			}
			if l := order.Swap(vars, i); !slices.Equal(l, want) || !order.Right(vars, l...) {
				t.Errorf("%d, %d: %v", vars, i, l)
			}
		}
		for _, i := range []int{math.MinInt, math.MinInt + 1, -64, 64, math.MaxInt - 1, math.MaxInt} {
			if l := order.Swap(vars, i); !slices.Equal(l, stay(vars)) {
				t.Errorf("%d, %d: %v", vars, i, l)
			}
		}
	}
	for _, vars := range []int{math.MinInt, -1, 62, 64, 1 << 40, math.MaxInt} {
		for _, i := range []int{-1, 0, 1, vars - 2, vars - 1} {
			if l := order.Swap(vars, i); len(l) != 0 {
				t.Errorf("%d, %d: %v", vars, i, l)
			}
		}
	}
}

// TestP37_1Back: what an order does is undone, and of what is none there is none.
func TestP37_1Back(t *testing.T) {
	dice := plain.Dice(3710)
	for i := range 300 {
		vars := i % 62
		l := shuffled(&dice, vars)
		before := slices.Clone(l)
		back := order.Back(l...)
		if !right(vars, back) || !slices.Equal(l, before) {
			t.Fatalf("%v: back by %v", before, back)
		}
		for v, at := range l {
			if back[at] != v {
				t.Errorf("%v: back by %v", l, back)
			}
		}
		if got := order.Then(l, back); !slices.Equal(got, stay(vars)) {
			t.Errorf("%v and back is %v", l, got)
		}
		if got := order.Then(back, l); !slices.Equal(got, stay(vars)) {
			t.Errorf("back of %v and that is %v", l, got)
		}
	}
	if l := order.Back(2, 0, 1); !slices.Equal(l, []int{1, 2, 0}) {
		t.Errorf("back of 2, 0, 1: %v", l)
	}
	for n := range 4 {
		for _, l := range rows(n, -1, n+1) {
			if back := order.Back(l...); (len(back) == n) != right(n, l) || n > 0 && !right(n, l) && len(back) != 0 {
				t.Errorf("back of %v: %v", l, back)
			}
		}
	}
	if back := order.Back(stay(62)...); len(back) != 0 {
		t.Errorf("back of 62: %v", back)
	}
}

// TestP37_1Then: a variable goes by the first one to a place, and on from there by the second one.
func TestP37_1Then(t *testing.T) {
	dice := plain.Dice(3711)
	for i := range 300 {
		vars := i % 62
		a, b := shuffled(&dice, vars), shuffled(&dice, vars)
		before, other := slices.Clone(a), slices.Clone(b)
		l := order.Then(a, b)
		if !right(vars, l) || !slices.Equal(a, before) || !slices.Equal(b, other) {
			t.Fatalf("%v, then %v: %v", before, other, l)
		}
		for v := range l {
			if l[v] != b[a[v]] {
				t.Errorf("%v, then %v: %v", a, b, l)
			}
		}
		if x := uint64(dice.Below(1<<31)) << 30; order.Bits(x, l...) != order.Bits(order.Bits(x, a...), b...) {
			t.Errorf("%v, then %v: the bits differ", a, b)
		}
	}
	if l := order.Then([]int{1, 2, 0}, []int{1, 0, 2}); !slices.Equal(l, []int{0, 2, 1}) {
		t.Errorf("1, 2, 0, then 1, 0, 2: %v", l)
	}
	for n := range 4 {
		for _, l := range rows(n, -1, n+1) {
			for other := range 5 {
				want := right(n, l) && n == other
				if got := order.Then(l, stay(other)); len(got) > 0 != (want && n > 0) || want && !slices.Equal(got, l) {
					t.Errorf("%v, then of %d all stay: %v", l, other, got)
				}
				if got := order.Then(stay(other), l); len(got) > 0 != (want && n > 0) || want && !slices.Equal(got, l) {
					t.Errorf("of %d all stay, then %v: %v", other, l, got)
				}
			}
		}
	}
	if l := order.Then(stay(62), stay(62)); len(l) != 0 {
		t.Errorf("of 62: %v", l)
	}
}

// TestP37_1Bits: each bit goes to its place; those above go nowhere.
func TestP37_1Bits(t *testing.T) {
	dice := plain.Dice(3712)
	for i := range 300 {
		vars := i % 62
		l := shuffled(&dice, vars)
		b := uint64(dice.Below(1<<31))<<33 | uint64(dice.Below(1<<31))<<2 | uint64(dice.Below(4))
		moved := order.Bits(b, l...)
		for v, at := range l {
			if moved>>at&1 != b>>v&1 {
				t.Errorf("%v: %b comes to %b", l, b, moved)
			}
		}
		if moved>>vars != 0 || order.Bits(math.MaxUint64, l...) != 1<<vars-1 {
			t.Errorf("%v: %b comes to %b, all to %b", l, b, moved, order.Bits(math.MaxUint64, l...))
		}
	}
	if b := order.Bits(0b011, 1, 2, 0); b != 0b110 {
		t.Errorf("011 by 1, 2, 0: %b", b)
	}
	for n := range 4 {
		for _, l := range rows(n, -1, n+1) {
			if b := order.Bits(math.MaxUint64, l...); !right(n, l) && b != 0 {
				t.Errorf("%v: %b", l, b)
			}
		}
	}
	if b := order.Bits(math.MaxUint64, stay(62)...); b != 0 {
		t.Errorf("of 62: %b", b)
	}
}

// TestP37_1New: what is answered shares nothing with what was handed in, or was answered.
func TestP37_1New(t *testing.T) {
	l := make([]int, 3, 9)
	copy(l, []int{2, 0, 1})
	for _, answer := range [][]int{order.Back(l...), order.Then(l, l), order.Swap(3, 0), order.Then(l, stay(3)), order.Then(stay(3), l)} {
		for i := range answer {
			answer[i] = 9
		}
	}
	if !slices.Equal(l[:9], []int{2, 0, 1, 0, 0, 0, 0, 0, 0}) || !slices.Equal(order.Swap(3, 0), []int{1, 0, 2}) || !slices.Equal(order.Back(l...), []int{1, 2, 0}) {
		t.Errorf("%v is changed", l[:9])
	}
}
