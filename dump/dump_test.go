package dump_test

import (
	"math"
	"slices"
	"strconv"
	"strings"
	"testing"

	"crupper/api"
	"crupper/dump"
	"crupper/ite"
	"crupper/plain"
)

// outside are numbers that are no node, if there are n beside 0 and 1.
func outside(n int) []int {
	return []int{math.MinInt, math.MinInt32, -n - 2, -2, -1, n + 2, n + 3, n + 64, 1 << 32, 1<<32 + 1, math.MaxInt}
}

// halves are a row where its variable 0 is false, and where it is true.
func halves(row string) (string, string) {
	var l [2][]byte
	for bits := range len(row) {
		l[bits%2] = append(l[bits%2], row[bits])
	}
	return string(l[0]), string(l[1])
}

// printed goes by the words, of rows: each that is had already has its number.
func printed(vars int, rows ...string) string {
	lines := []string{strconv.Itoa(vars)}
	var parts []string // the rows that have a line, each from its first variable on that counts
	var number func(row string) int
	number = func(row string) int {
		if !strings.Contains(row, "1") {
			return 0
		}
		if !strings.Contains(row, "0") {
			return 1
		}
		for lo, hi := halves(row); lo == hi; lo, hi = halves(row) {
			row = lo
		}
		if at := slices.Index(parts, row); at >= 0 {
			return at + 2
		}
		lo, hi := halves(row)
		a := number(lo)
		b := number(hi)
		lines = append(lines, strconv.Itoa(vars-plain.Vars(row))+" "+strconv.Itoa(a)+" "+strconv.Itoa(b))
		parts = append(parts, row)
		return len(parts) + 1
	}
	last := "="
	for _, row := range rows {
		last += " " + strconv.Itoa(number(row))
	}
	return strings.Join(append(lines, last), "\n") + "\n"
}

// drawn draws some rows, and their diagrams, of which some come twice.
func drawn(dice *plain.Dice, d *ite.BDD) ([]string, []int) {
	var rows []string
	var l []int
	for range dice.Below(4) {
		rows = append(rows, dice.Row(d.Vars()))
		l = append(l, plain.Diagram(rows[len(rows)-1], d.Make))
	}
	if len(l) > 1 && dice.Below(2) == 0 {
		rows, l = append(rows, rows[0]), append(l, l[0])
	}
	return rows, l
}

// TestP39_1Told: the chapter's example, and some more, line by line.
func TestP39_1Told(t *testing.T) {
	d := ite.New(3, 100)
	c, b, a := d.Lit(2), d.Lit(1), d.Lit(0)
	for _, x := range []struct {
		want string
		l    []int
	}{
		{"3;=", nil},
		{"3;= 0", []int{0}},
		{"3;= 1 0 1", []int{1, 0, 1}},
		{"3;0 0 1;= 2", []int{a}},
		{"3;2 0 1;= 2", []int{c}},
		{"3;2 1 0;= 2", []int{d.Not(c)}},
		{"3;2 0 1;0 0 1;= 2 3", []int{c, a}},
		{"3;0 0 1;2 0 1;= 2 3 2", []int{a, c, a}},
		{"3;1 0 1;0 0 2;= 3", []int{d.And(a, b)}},
		{"3;1 0 1;0 2 1;= 3", []int{d.Or(a, b)}},
		{"3;2 0 1;1 0 1;0 2 3;= 4", []int{d.Ite(a, b, c)}},
		{"3;1 0 1;2 0 1;0 2 3;= 4", []int{d.Ite(a, c, b)}},
		{"3;1 0 1;2 0 1;0 2 3;= 4 3 2", []int{d.Ite(a, c, b), c, b}},
		{"3;2 0 1;1 0 1;0 3 2;= 2 4 3", []int{c, d.Ite(a, c, b), b}},
		{"3;2 0 1;2 1 0;1 2 3;1 3 2;0 4 5;= 6", []int{d.Xor(a, d.Xor(b, c))}},
		{"3;2 0 1;1 2 1;0 0 3;= 4", []int{d.And(a, d.Or(b, c))}},
	} {
		want := strings.ReplaceAll(x.want, ";", "\n") + "\n"
		if text := dump.Print(d, x.l...); text != want {
			t.Errorf("%v: %q, not %q", x.l, text, want)
		}
		if l, ok := dump.Read(d, want); !slices.Equal(l, x.l) || !ok {
			t.Errorf("%q: %v, %v, not %v", want, l, ok, x.l)
		}
	}
	d = ite.New(1, 10)
	if text := dump.Print(d, d.Lit(0)); text != "1\n0 0 1\n= 2\n" {
		t.Errorf("Lit(0): %q", text)
	}
	d = ite.New(0, 0)
	if text := dump.Print(d, 1, 0); text != "0\n= 1 0\n" {
		t.Errorf("of no variables: %q", text)
	}
}

// TestP39_1Drawn: drawn diagrams are printed by the words, and that changes nothing.
func TestP39_1Drawn(t *testing.T) {
	dice := plain.Dice(391)
	for i := range 2000 {
		d := ite.New(i%8, api.MaxBudget)
		rows, l := drawn(&dice, d)
		nodes := d.Len()
		want := printed(d.Vars(), rows...)
		if text := dump.Print(d, l...); text != want || d.Len() != nodes || d.Calls() != 0 {
			t.Fatalf("%v: %q, not %q", rows, text, want)
		}
		if n := dump.Lines(want); n != len(strings.Split(want, "\n"))-1 {
			t.Errorf("%q: %d lines", want, n)
		}
	}
}

// TestP39_1Wrong: nothing is printed, if one of the numbers is no node, wherever it stands.
func TestP39_1Wrong(t *testing.T) {
	for _, vars := range []int{0, 1, 3, 61} {
		d := ite.New(vars, 100)
		last := max(1, d.Lit(vars-1))
		for _, bad := range outside(int(d.Len())) {
			for _, l := range [][]int{{bad}, {bad, last}, {last, bad}, {0, bad, 1}, {bad, bad}} {
				if text := dump.Print(d, l...); text != "" {
					t.Errorf("of %d variables %v: %q", vars, l, text)
				}
			}
		}
	}
}

// TestP39_1Spent: the nodes that there are when a budget didn't last are printed.
func TestP39_1Spent(t *testing.T) {
	d := ite.New(3, 2)
	d.Lit(2)
	d.Make(0, 0, 2)
	d.Lit(1)
	if text := dump.Print(d, 3, 2); text != "3\n2 0 1\n0 0 2\n= 3 2\n" || !d.Spent() {
		t.Errorf("%q, spent %v", text, d.Spent())
	}
	if text := dump.Print(d, 4); text != "" {
		t.Errorf("no node: %q", text)
	}
}

// TestP39_1Nil: nil, of which the chapter doesn't speak, is as of New(0, 0), but that nothing is made in it.
func TestP39_1Nil(t *testing.T) {
	none := ite.New(0, 0)
	for f := range 4 {
		if text := dump.Print(nil, f); text != dump.Print(none, f) {
			t.Errorf("%d: %q", f, text)
		}
		if dump.Equal(nil, f, none, f) != (f < 2) || dump.Equal(none, f, nil, f) != (f < 2) || dump.Equal(nil, f, nil, f) != (f < 2) {
			t.Errorf("%d isn't equal", f)
		}
		for _, from := range []*ite.BDD{nil, none} {
			if g, ok := dump.Copy(nil, from, f); g != 0 || ok {
				t.Errorf("%d: %d, %v", f, g, ok)
			}
		}
		if g, ok := dump.Copy(none, nil, f); ok != (f < 2) || ok && g != f || !ok && g != 0 {
			t.Errorf("%d: %d, %v", f, g, ok)
		}
	}
	for _, text := range []string{"", "0\n=\n", "0\n= 1 0\n"} {
		if l, ok := dump.Read(nil, text); len(l) != 0 || ok {
			t.Errorf("%q: %v, %v", text, l, ok)
		}
	}
}

// TestP39_2Lines: line ends are counted, and nothing else is.
func TestP39_2Lines(t *testing.T) {
	for text, want := range map[string]int{
		"": 0, "\n": 1, "a": 0, "a\n": 1, "a\nb": 1, "\n\n\n": 3, "\r\r": 0, "a\r\nb\r\n": 2, "1\n0 0 1\n= 2\n": 3, "\v\f\u0085\u2028": 0, "\\n": 0,
	} {
		if n := dump.Lines(text); n != want {
			t.Errorf("%q: %d, not %d", text, n, want)
		}
	}
}

// TestP39_2Copy: drawn diagrams of one are copied to another one that has diagrams already.
func TestP39_2Copy(t *testing.T) {
	dice := plain.Dice(392)
	for i := range 1000 {
		vars := i % 8
		from, to := ite.New(vars, api.MaxBudget), ite.New(vars, api.MaxBudget)
		drawn(&dice, from)
		drawn(&dice, to)
		row := dice.Row(vars)
		f := plain.Diagram(row, from.Make)
		nodes := from.Len()
		g, ok := dump.Copy(to, from, f)
		if want := plain.Diagram(row, to.Make); g != want || !ok || from.Len() != nodes {
			t.Fatalf("%s: %d, %v, not %d", row, g, ok, want)
		}
		if same, ok := dump.Copy(from, from, f); same != f || !ok || from.Len() != nodes {
			t.Errorf("%s: to itself: %d, %v, not %d", row, same, ok, f)
		}
		if !dump.Equal(from, f, to, g) || !dump.Equal(to, g, from, f) {
			t.Errorf("%s: the copy isn't equal", row)
		}
	}
}

// TestP39_2CopyWrong: no node, another number of variables, and too small a budget.
func TestP39_2CopyWrong(t *testing.T) {
	from := ite.New(3, 100)
	f := from.Or(from.Lit(0), from.And(from.Lit(1), from.Lit(2)))
	for _, vars := range []int{0, 1, 2, 4, 61} {
		to := ite.New(vars, 100)
		for _, n := range []int{0, 1, f, 99} {
			if g, ok := dump.Copy(to, from, n); g != 0 || ok || to.Len() != 0 || dump.Equal(to, n, from, n) || dump.Equal(from, n, to, n) {
				t.Errorf("of %d variables: %d, %v", vars, g, ok)
			}
		}
	}
	to := ite.New(3, 100)
	for _, bad := range outside(int(from.Len())) {
		if g, ok := dump.Copy(to, from, bad); g != 0 || ok || to.Len() != 0 {
			t.Errorf("%d: %d, %v", bad, g, ok)
		}
		for _, n := range []int{0, 1, f, bad} {
			if dump.Equal(from, bad, from, n) || dump.Equal(from, n, from, bad) {
				t.Errorf("%d and %d are equal", bad, n)
			}
		}
	}
	for budget := range int64(5) {
		to := ite.New(3, budget)
		g, ok := dump.Copy(to, from, f)
		if lasts := budget >= 3; ok != lasts || to.Spent() == lasts || !lasts && g != 0 || lasts && !dump.Equal(to, g, from, f) {
			t.Errorf("budget %d: %d, %v, spent %v", budget, g, ok, to.Spent())
		}
		if to.Spent() {
			for n := range 2 {
				if g, ok := dump.Copy(to, from, n); g != 0 || ok {
					t.Errorf("spent: %d, %v", g, ok)
				}
			}
		}
	}
}

// TestP39_2Equal: two are equal just if they are of as many variables, and true at the same bits, as their texts tell (P39.4).
func TestP39_2Equal(t *testing.T) {
	dice := plain.Dice(3920)
	for i := range 150 {
		vars := i % 5
		a, b := ite.New(vars, api.MaxBudget), ite.New(vars+i/5%2, api.MaxBudget)
		drawn(&dice, a)
		drawn(&dice, b)
		for f := range int(a.Len()) + 3 {
			for g := range int(b.Len()) + 3 {
				want := a.Is(f) && b.Is(g) && a.Vars() == b.Vars()
				for bits := range uint64(1) << vars {
					want = want && a.At(f, bits) == b.At(g, bits)
				}
				if dump.Equal(a, f, b, g) != want || dump.Equal(b, g, a, f) != want {
					t.Fatalf("%d and %d, of %d and %d variables: not %v", f, g, a.Vars(), b.Vars(), want)
				}
				if text, other := dump.Print(a, f), dump.Print(b, g); (text == other && text != "") != want {
					t.Fatalf("%d and %d, of %d and %d variables: %q, %q", f, g, a.Vars(), b.Vars(), text, other)
				}
			}
		}
	}
}

// TestP39_2Large: of 61 variables, with nodes that one comes to on very many ways.
func TestP39_2Large(t *testing.T) {
	const vars = api.MaxBits
	a, b := ite.New(vars, api.MaxBudget), ite.New(vars, 200)
	odd := 0
	for v := range vars {
		odd = a.Xor(a.Lit(v), odd)
	}
	text := dump.Print(a, odd, a.Not(odd), odd)
	if n := dump.Lines(text); n != 2*vars+2 {
		t.Errorf("%d lines", n)
	}
	l, ok := dump.Read(b, text)
	if !ok || len(l) != 3 || l[0] != l[2] || b.Len() != 2*vars || dump.Print(b, l...) != text {
		t.Errorf("%v, %v: %d nodes", l, ok, b.Len())
	}
	if g, ok := dump.Copy(b, a, odd); !ok || g != l[0] || !dump.Equal(a, odd, b, g) || dump.Equal(a, odd, b, l[1]) {
		t.Errorf("%d, %v, not %d", g, ok, l[0])
	}
}
