package set_test

import (
	"math"
	"slices"
	"testing"

	"crupper/set"
)

// dice draws numbers, the same ones each time.
type dice uint64

func (d *dice) below(n int) int {
	*d = *d*6364136223846793005 + 1442695040888963407
	return int(uint64(*d)>>33) % n
}

// with is a family with these numbers in its sets, row by row.
func with(t *testing.T, cols int, rows ...[]int) *set.Family {
	t.Helper()
	f := set.New(len(rows), cols)
	for row, l := range rows {
		for _, col := range l {
			if !f.Add(row, col) {
				t.Fatalf("%d isn't added to %d", col, row)
			}
		}
	}
	return f
}

// outside are places that a family of so many hasn't.
func outside(n int) []int {
	return []int{math.MinInt, math.MinInt32, -5000, -64, -1, n, n + 1, n + 64, n + 5000, 1 << 32, math.MaxInt}
}

// holds asks a family for all that it is to have, and for what it isn't.
func holds(t *testing.T, what string, f *set.Family, cols int, rows ...[]int) {
	t.Helper()
	if f == nil {
		t.Fatalf("%s: no family", what)
	}
	if f.Rows() != len(rows) || f.Cols() != cols {
		t.Fatalf("%s: %d sets of %d numbers, not %d of %d", what, f.Rows(), f.Cols(), len(rows), cols)
	}
	total := 0
	for row, l := range rows {
		if !slices.Equal(f.List(row), l) || f.Len(row) != len(l) {
			t.Errorf("%s: %d has %v, %d, not %v", what, row, f.List(row), f.Len(row), l)
		}
		for col := range cols {
			if f.Has(row, col) != slices.Contains(l, col) {
				t.Errorf("%s: %d has %d: %v", what, row, col, f.Has(row, col))
			}
		}
		for _, col := range outside(cols) {
			if f.Has(row, col) {
				t.Errorf("%s: %d has %d", what, row, col)
			}
		}
		total += len(l)
	}
	if f.Total() != total {
		t.Errorf("%s: %d in all, not %d", what, f.Total(), total)
	}
	for _, row := range outside(len(rows)) {
		if len(f.List(row)) != 0 || f.Len(row) != 0 || f.Has(row, 0) {
			t.Errorf("%s: there is a set %d", what, row)
		}
	}
}

func TestP7_1New(t *testing.T) {
	for _, rows := range []struct{ asked, want int }{{math.MinInt, 0}, {-1, 0}, {0, 0}, {1, 1}, {2, 2}, {64, 64}, {4096, 4096}, {4999, 4999}, {5000, 5000}, {5001, 5000}, {1 << 32, 5000}, {math.MaxInt, 5000}} {
		for _, cols := range []struct{ asked, want int }{{math.MinInt, 0}, {-1, 0}, {0, 0}, {1, 1}, {63, 63}, {64, 64}, {65, 65}, {999, 999}, {1000, 1000}, {1001, 1000}, {1024, 1000}, {5000, 1000}, {1 << 32, 1000}, {math.MaxInt, 1000}} {
			f := set.New(rows.asked, cols.asked)
			if f == nil || f.Rows() != rows.want || f.Cols() != cols.want || f.Total() != 0 {
				t.Fatalf("%d of %d: %d of %d, %d in all", rows.asked, cols.asked, f.Rows(), f.Cols(), f.Total())
			}
			last, least := rows.want-1, cols.want-1
			if f.Add(last+1, 0) || f.Add(0, least+1) || f.Add(last, least+1) || f.Add(last+1, least) || f.Total() != 0 {
				t.Errorf("%d of %d: beyond", rows.asked, cols.asked)
			}
			if there := rows.want > 0 && cols.want > 0; f.Add(last, least) != there || f.Has(last, least) != there || f.Add(last, least) {
				t.Errorf("%d of %d: the last", rows.asked, cols.asked)
			}
		}
	}
	holds(t, "empty", set.New(3, 70), 70, nil, nil, nil)
	holds(t, "no numbers", set.New(3, 0), 0, nil, nil, nil)
	holds(t, "no sets", set.New(0, 70), 70)
}

// TestP7_1Each: each number that may be is added alone, and nothing else is.
func TestP7_1Each(t *testing.T) {
	for _, cols := range []int{1, 63, 64, 65, 128, 130, 1000} {
		f := set.New(3, cols)
		for col := range cols {
			one := set.New(3, cols)
			if !one.Add(1, col) || !one.Has(1, col) || one.Add(1, col) || !slices.Equal(one.List(1), []int{col}) || one.Len(1) != 1 || one.Total() != 1 {
				t.Errorf("%d of %d: %v", col, cols, one.List(1))
			}
			if len(one.List(0)) != 0 || len(one.List(2)) != 0 {
				t.Errorf("%d of %d: beside: %v %v", col, cols, one.List(0), one.List(2))
			}
			if f.Has(1, col) || !f.Add(1, col) || f.Len(1) != col+1 || f.Total() != col+1 {
				t.Errorf("%d of %d: %v", col, cols, f.List(1))
			}
		}
		for i, col := range f.List(1) {
			if i != col {
				t.Errorf("%d stands at %d", col, i)
			}
		}
		if len(f.List(1)) != cols || f.Len(0) != 0 || f.Len(2) != 0 {
			t.Errorf("%d: %v", cols, f.List(1))
		}
	}
}

func TestP7_1Lists(t *testing.T) {
	f := with(t, 200, []int{199, 0, 64, 63, 65, 128, 127}, nil, []int{70, 3}, []int{0})
	holds(t, "some", f, 200, []int{0, 63, 64, 65, 127, 128, 199}, nil, []int{3, 70}, []int{0})
	a, b := f.List(0), f.List(0)
	clear(a)
	_ = append(b[:1], 7)
	holds(t, "when a list was changed", f, 200, []int{0, 63, 64, 65, 127, 128, 199}, nil, []int{3, 70}, []int{0})
}

// TestP7_1None: sets and numbers that there aren't.
func TestP7_1None(t *testing.T) {
	f := with(t, 70, []int{0, 69}, []int{1})
	for _, row := range append(outside(2), 0, 1) {
		for _, col := range append(outside(70), 0, 1, 69) {
			there := (row == 0 || row == 1) && col >= 0 && col < 70
			if there {
				continue
			}
			if f.Has(row, col) || f.Add(row, col) || f.Has(row, col) {
				t.Errorf("%d of %d", col, row)
			}
		}
	}
	holds(t, "as it was", f, 70, []int{0, 69}, []int{1})
}

func TestP7_1Nil(t *testing.T) {
	var f *set.Family
	holds(t, "nil", f.Copy(), 0)
	if f.Rows() != 0 || f.Cols() != 0 || f.Total() != 0 || f.Len(0) != 0 || len(f.List(0)) != 0 || f.Add(0, 0) || f.Has(0, 0) || f.Has(-1, -1) || f.Len(-1) != 0 {
		t.Error("nil is not as of none")
	}
	if f.Meets(0, 0) || !f.Inside(0, 0) || !f.Inside(-1, 1) {
		t.Error("nil has sets")
	}
	none := set.New(0, 0)
	if !f.Within(nil) || !f.Within(none) || !none.Within(f) || f.Within(set.New(1, 0)) || f.Within(set.New(0, 1)) || set.New(1, 0).Within(f) || set.New(0, 1).Within(f) {
		t.Error("nil within others")
	}
}

func TestP7_2Within(t *testing.T) {
	low := [][]int{{1, 65}, nil, {129}}
	f := with(t, 130, low...)
	for _, c := range []struct {
		g    *set.Family
		want bool
		what string
	}{
		{f, true, "itself"},
		{with(t, 130, low...), true, "the same"},
		{with(t, 130, []int{1, 65, 66}, []int{0}, []int{129, 128}), true, "more"},
		{with(t, 130, []int{1, 65}, []int{0, 64, 129}, []int{129}), true, "more in one that was empty"},
		{with(t, 130, []int{1}, nil, []int{129}), false, "less in the first"},
		{with(t, 130, []int{65}, nil, []int{129}), false, "less in a first word"},
		{with(t, 130, []int{1, 65}, []int{129}, nil), false, "less in the last"},
		{with(t, 130, []int{1, 65}, nil, []int{1, 65}), false, "another one"},
		{with(t, 130, nil, nil, nil), false, "empty"},
		{with(t, 131, low...), false, "more numbers"},
		{with(t, 130, []int{1, 65}, nil, []int{129}, nil), false, "more sets"},
		{with(t, 130, []int{1, 65}, nil), false, "less sets"},
		{nil, false, "nil"},
	} {
		if f.Within(c.g) != c.want {
			t.Errorf("within %s: %v", c.what, !c.want)
		}
	}
	if e := set.New(3, 129); e.Within(f) || f.Within(e) || !e.Within(set.New(3, 129)) || !set.New(3, 130).Within(f) {
		t.Error("an empty one")
	}
	if set.New(2, 130).Within(f) || set.New(4, 130).Within(f) || !set.New(-1, 7).Within(set.New(0, 7)) {
		t.Error("an empty one of other sets")
	}
	holds(t, "as it was", f, 130, low...)
}

func TestP7_2Two(t *testing.T) {
	f := with(t, 1000, []int{0, 70}, []int{70, 999}, []int{70}, nil, []int{0, 70, 999}, []int{6, 134}, []int{999}, []int{0, 70})
	rows := f.Rows()
	for row := range rows {
		for other := range rows {
			meets, inside := false, true
			for _, col := range f.List(row) {
				meets = meets || slices.Contains(f.List(other), col)
				inside = inside && slices.Contains(f.List(other), col)
			}
			if f.Meets(row, other) != meets || f.Inside(row, other) != inside {
				t.Errorf("%d, %d: %v %v", row, other, f.Meets(row, other), f.Inside(row, other))
			}
		}
		for _, other := range outside(rows) {
			if f.Meets(row, other) || f.Meets(other, row) || !f.Inside(other, row) || f.Inside(row, other) != (row == 3) {
				t.Errorf("%d, %d", row, other)
			}
		}
	}
	for _, row := range outside(rows) {
		if f.Meets(row, row) || !f.Inside(row, row) {
			t.Errorf("%d", row)
		}
	}
	two := set.New(2, 71)
	if !two.Add(0, 70) || two.Meets(0, 1) || !two.Add(1, 70) || !two.Meets(0, 1) || !two.Meets(1, 0) {
		t.Error("the example")
	}
}

func TestP7_2Copy(t *testing.T) {
	f := with(t, 130, []int{1, 129}, nil)
	c := f.Copy()
	holds(t, "a copy", c, 130, []int{1, 129}, nil)
	if !f.Add(0, 2) || !c.Add(1, 3) || !c.Add(0, 128) || !f.Add(1, 64) {
		t.Error("they don't go on alone")
	}
	holds(t, "the first", f, 130, []int{1, 2, 129}, []int{64})
	holds(t, "the copy", c, 130, []int{1, 128, 129}, []int{3})
	again := c.Copy()
	c.Add(1, 4)
	holds(t, "a copy of a copy", again, 130, []int{1, 128, 129}, []int{3})
	holds(t, "of no sets", set.New(0, 9).Copy(), 9)
	holds(t, "of no numbers", set.New(2, 0).Copy(), 0, nil, nil)
}

// TestP7_3Drawn: families that are drawn hold what was added, and nothing else, as maps do.
func TestP7_3Drawn(t *testing.T) {
	var d dice = 7
	for range 60 {
		rows, cols := d.below(9)+1, []int{1, 2, 63, 64, 65, 128, 192, 257}[d.below(8)]
		f, had := set.New(rows, cols), map[[2]int]bool{}
		for range d.below(3 * cols) {
			row, col := d.below(rows+2)-1, d.below(cols+2)-1
			in := row >= 0 && row < rows && col >= 0 && col < cols
			before, want := f.Total(), in && !had[[2]int{row, col}]
			if f.Add(row, col) != want {
				t.Fatalf("%d of %d is added: %v", col, row, !want)
			}
			if want {
				had[[2]int{row, col}] = true
			}
			if f.Total() != len(had) || f.Total()-before > 1 {
				t.Fatalf("%d in all, then %d, not %d", before, f.Total(), len(had))
			}
		}
		want := make([][]int, rows)
		for row := range rows {
			for col := range cols {
				if had[[2]int{row, col}] {
					want[row] = append(want[row], col)
				}
			}
		}
		holds(t, "drawn", f, cols, want...)
		less, more := f.Copy(), f.Copy()
		more.Add(d.below(rows), d.below(cols))
		if !less.Within(f) || !f.Within(less) || !f.Within(more) || more.Within(f) != (more.Total() == f.Total()) {
			t.Error("a copy, or one with more")
		}
	}
}

// TestP7_3Apart: a family knows nothing of another one.
func TestP7_3Apart(t *testing.T) {
	a, b := set.New(2, 70), set.New(2, 70)
	if !a.Add(1, 69) || b.Has(1, 69) || !b.Add(1, 69) || !b.Add(0, 0) {
		t.Error("they aren't apart")
	}
	holds(t, "one", a, 70, nil, []int{69})
	holds(t, "another one", b, 70, []int{0}, []int{69})
}
