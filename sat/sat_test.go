package sat_test

import (
	"math"
	"slices"
	"strings"
	"testing"

	"crupper/api"
	"crupper/ite"
	"crupper/plain"
	"crupper/sat"
)

// outside are numbers that are no node, if there are n beside 0 and 1.
func outside(n int) []int {
	return []int{math.MinInt, math.MinInt + 1, math.MinInt32, -n - 2, -2, -1, n + 2, n + 3, n + 64, 1 << 32, 1<<32 + 1, math.MaxInt - 1, math.MaxInt}
}

// answers are all that is to be said of one diagram.
type answers struct {
	count           uint64
	least, greatest uint64
	path            []int
	so              bool // is it true somewhere?
	always          bool
	first           []uint64 // all of them, or the 1000 least
}

// hold holds what is said of a diagram against what is to be said.
func hold(t *testing.T, what string, d *ite.BDD, f int, want answers) {
	t.Helper()
	if n := sat.Count(d, f); n != want.count {
		t.Errorf("%s: true at %d, not at %d", what, n, want.count)
	}
	if b, ok := sat.Least(d, f); b != want.least || ok != want.so {
		t.Errorf("%s: least %b, %v, not %b", what, b, ok, want.least)
	}
	if b, ok := sat.Greatest(d, f); b != want.greatest || ok != want.so {
		t.Errorf("%s: greatest %b, %v, not %b", what, b, ok, want.greatest)
	}
	if l, ok := sat.Path(d, f); !slices.Equal(l, want.path) || ok != want.so {
		t.Errorf("%s: path %v, %v, not %v", what, l, ok, want.path)
	}
	if sat.Always(d, f) != want.always || sat.Never(d, f) == want.so {
		t.Errorf("%s: always %v, never %v", what, sat.Always(d, f), sat.Never(d, f))
	}
	for _, n := range []int{math.MinInt, -1, 0, 1, 2, 3, 5, 100, 999, 1000, 1001, 1 << 32, math.MaxInt} {
		if l := sat.First(d, f, n); !slices.Equal(l, want.first[:max(0, min(n, len(want.first)))]) {
			t.Errorf("%s: the %d least are %v, not of %v", what, n, l, want.first)
		}
	}
}

// by tells of a row what is to be said.
func by(row string) answers {
	vars := plain.Vars(row)
	x := answers{path: path(row), so: strings.Contains(row, "1"), always: !strings.Contains(row, "0")}
	for bits := range row {
		if row[bits] == '1' {
			x.count++
			x.first = append(x.first, uint64(bits))
		}
	}
	if x.so {
		x.least, x.greatest = x.first[0], x.first[len(x.first)-1]
	}
	if x.first = x.first[:min(len(x.first), 1000)]; len(x.path) != vars && x.so {
		panic("a path of all variables")
	}
	return x
}

// path goes by the words, from the first variable on.
func path(row string) []int {
	var l []int
	if !strings.Contains(row, "1") {
		return nil
	}
	for v := range plain.Vars(row) {
		with := func(so bool) string {
			return plain.Row(plain.Vars(row), func(bits int) bool { return row[plain.With(bits, v, so)] == '1' })
		}
		switch no, yes := with(false), with(true); {
		case no == yes:
			l = append(l, -1)
		case strings.Contains(no, "1"):
			l, row = append(l, 0), no
		default:
			l, row = append(l, 1), yes
		}
	}
	return l
}

// TestP18_1Told: the chapter's example, and some more.
func TestP18_1Told(t *testing.T) {
	d := ite.New(3, 100)
	a, b, c := d.Lit(0), d.Lit(1), d.Lit(2)
	for _, x := range []struct {
		what string
		f    int
		want answers
	}{
		{"Lit(1)", b, answers{4, 2, 7, []int{-1, 1, -1}, true, false, []uint64{2, 3, 6, 7}}},
		{"0", 0, answers{}},
		{"1", 1, answers{8, 0, 7, []int{-1, -1, -1}, true, true, []uint64{0, 1, 2, 3, 4, 5, 6, 7}}},
		{"a", a, answers{4, 1, 7, []int{1, -1, -1}, true, false, []uint64{1, 3, 5, 7}}},
		{"not a", d.Not(a), answers{4, 0, 6, []int{0, -1, -1}, true, false, []uint64{0, 2, 4, 6}}},
		{"not c", d.Not(c), answers{4, 0, 3, []int{-1, -1, 0}, true, false, []uint64{0, 1, 2, 3}}},
		{"a and c", d.And(a, c), answers{2, 5, 7, []int{1, -1, 1}, true, false, []uint64{5, 7}}},
		{"c, not a", d.Less(a, c), answers{2, 4, 6, []int{0, -1, 1}, true, false, []uint64{4, 6}}},
		{"a or c", d.Or(c, a), answers{6, 1, 7, []int{0, -1, 1}, true, false, []uint64{1, 3, 4, 5, 6, 7}}},
		{"a xor b", d.Xor(a, b), answers{4, 1, 6, []int{0, 1, -1}, true, false, []uint64{1, 2, 5, 6}}},
		{"all", d.And(a, b, c), answers{1, 7, 7, []int{1, 1, 1}, true, false, []uint64{7}}},
		{"none", d.Not(d.Or(a, b, c)), answers{1, 0, 0, []int{0, 0, 0}, true, false, []uint64{0}}},
		{"if c, a, else not a", d.Ite(c, a, d.Not(a)), answers{4, 0, 7, []int{0, -1, 0}, true, false, []uint64{0, 2, 5, 7}}},
	} {
		hold(t, x.what, d, x.f, x.want)
	}
}

// TestP18_1Wrong: a number that is no node is never true.
func TestP18_1Wrong(t *testing.T) {
	for _, vars := range []int{0, 1, 3, api.MaxBits} {
		d := ite.New(vars, 100)
		last := d.Lit(vars - 1)
		for _, bad := range outside(int(d.Len())) {
			hold(t, "no node", d, bad, answers{})
			for _, g := range []int{0, 1, last, bad, bad + 1} {
				if !sat.Entails(d, bad, g) {
					t.Errorf("%d doesn't entail %d", bad, g)
				}
			}
			if sat.Entails(d, 1, bad) || last != 0 && sat.Entails(d, last, bad) || !sat.Entails(d, 0, bad) {
				t.Errorf("what entails %d: 1 %v, %d %v, 0 %v", bad, sat.Entails(d, 1, bad), last, sat.Entails(d, last, bad), sat.Entails(d, 0, bad))
			}
		}
	}
}

// TestP18_1Drawn: of drawn diagrams all is as their rows say.
func TestP18_1Drawn(t *testing.T) {
	dice := plain.Dice(18)
	for i := range 1500 {
		vars := i % 8
		d := ite.New(vars, api.MaxBudget)
		row := dice.Row(vars)
		f := plain.Diagram(row, d.Make)
		hold(t, row, d, f, by(row))
		if t.Failed() {
			return
		}
	}
	for range 10 {
		d := ite.New(13, api.MaxBudget)
		row := dice.Row(13)
		hold(t, "of 13 variables", d, plain.Diagram(row, d.Make), by(row))
	}
}

// TestP18_2Path: at all bits that are as the path says the diagram is true.
func TestP18_2Path(t *testing.T) {
	dice := plain.Dice(182)
	for i := range 1000 {
		vars := 1 + i%7
		d := ite.New(vars, api.MaxBudget)
		row := dice.Row(vars)
		l, ok := sat.Path(d, plain.Diagram(row, d.Make))
		if !ok {
			if strings.Contains(row, "1") {
				t.Fatalf("%s: none", row)
			}
			continue
		}
		for bits := range row {
			as := true
			for v, want := range l {
				as = as && (want == -1 || want == bits>>v&1)
			}
			if as && row[bits] != '1' {
				t.Fatalf("%s: %v isn't true at %b", row, l, bits)
			}
		}
	}
}

// TestP18_1Entails: of drawn diagrams, and of such as surely entail.
func TestP18_1Entails(t *testing.T) {
	dice := plain.Dice(181)
	entailed := 0
	for i := range 2000 {
		vars := i % 6
		d := ite.New(vars, api.MaxBudget)
		row, other := dice.Row(vars), dice.Row(vars)
		f, g := plain.Diagram(row, d.Make), plain.Diagram(other, d.Make)
		want := true
		for bits := range row {
			want = want && (row[bits] == '0' || other[bits] == '1')
		}
		if want {
			entailed++
		}
		if sat.Entails(d, f, g) != want {
			t.Fatalf("%s, %s: %v", row, other, !want)
		}
		both, one := d.And(f, g), d.Or(f, g)
		if !sat.Entails(d, both, f) || !sat.Entails(d, both, g) || !sat.Entails(d, f, one) || !sat.Entails(d, g, one) || !sat.Entails(d, both, one) {
			t.Fatalf("%s, %s: what is in both, in each, in one", row, other)
		}
		if sat.Entails(d, f, both) != want || sat.Entails(d, one, g) != want || sat.Entails(d, one, both) != (f == g) {
			t.Fatalf("%s, %s: what is in one, in each, in both", row, other)
		}
		if !sat.Entails(d, f, f) || !sat.Entails(d, 0, f) || !sat.Entails(d, f, 1) || sat.Entails(d, f, 0) != (f == 0) || sat.Entails(d, 1, f) != (f == 1) {
			t.Fatalf("%s: with 0 and 1", row)
		}
	}
	if entailed < 100 || entailed > 1900 {
		t.Errorf("%d of 2000 entail", entailed)
	}
}

// TestP18_3Both: what is, and what isn't, are all.
func TestP18_3Both(t *testing.T) {
	dice := plain.Dice(183)
	for i := range 500 {
		vars := i % 9
		d := ite.New(vars, api.MaxBudget)
		f := plain.Diagram(dice.Row(vars), d.Make)
		if a, b := sat.Count(d, f), sat.Count(d, d.Not(f)); a+b != 1<<vars {
			t.Fatalf("%d variables: %d and %d", vars, a, b)
		}
	}
	for vars := range api.MaxBits + 1 {
		d := ite.New(vars, api.MaxBudget)
		for v := range vars {
			f := d.Lit(v)
			if a, b := sat.Count(d, f), sat.Count(d, d.Not(f)); a != 1<<(vars-1) || b != a {
				t.Errorf("%d of %d variables: %d and %d", v, vars, a, b)
			}
		}
		if a, b := sat.Count(d, 1), sat.Count(d, 0); a != 1<<vars || b != 0 {
			t.Errorf("%d variables: %d and %d", vars, a, b)
		}
	}
}
