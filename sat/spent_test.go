package sat_test

import (
	"testing"

	"crupper/api"
	"crupper/ite"
	"crupper/plain"
	"crupper/sat"
)

// TestP18_1Full: asking needs no nodes, and counts no calls.
func TestP18_1Full(t *testing.T) {
	dice := plain.Dice(1810)
	for i := range 300 {
		vars := 1 + i%6
		row, other := dice.Row(vars), dice.Row(vars)
		free := ite.New(vars, api.MaxBudget)
		plain.Diagram(row, free.Make)
		plain.Diagram(other, free.Make)
		d := ite.New(vars, free.Len())
		f, g := plain.Diagram(row, d.Make), plain.Diagram(other, d.Make)
		for range 2 {
			hold(t, row, d, f, by(row))
			sat.Entails(d, f, g)
			sat.Entails(d, g, f)
		}
		if d.Spent() || d.Len() != free.Len() || d.Calls() != 0 {
			t.Fatalf("spent %v, %d nodes, not %d, %d calls", d.Spent(), d.Len(), free.Len(), d.Calls())
		}
	}
}

// TestP18_1Spent: the diagrams that there are when a budget didn't last are true where they are true.
func TestP18_1Spent(t *testing.T) {
	for budget := range int64(30) {
		d := ite.New(5, budget)
		odd(d)
		least(d, 3)
		rows := []string{}
		for f := range int(d.Len()) + 2 {
			row := plain.Row(5, func(bits int) bool { return d.At(f, uint64(bits)) })
			hold(t, row, d, f, by(row))
			rows = append(rows, row)
		}
		for f, row := range rows {
			for g, other := range rows {
				want := true
				for bits := range row {
					want = want && (row[bits] == '0' || other[bits] == '1')
				}
				if sat.Entails(d, f, g) != want {
					t.Errorf("budget %d: %s, %s: %v", budget, row, other, !want)
				}
			}
		}
		if d.Len() > budget {
			t.Errorf("%d nodes, more than %d", d.Len(), budget)
		}
	}
}

// TestP18_1Few: of no variables there is one row of bits, and of one there are two.
func TestP18_1Few(t *testing.T) {
	d := ite.New(0, 10)
	hold(t, "0 of none", d, 0, answers{})
	hold(t, "1 of none", d, 1, answers{1, 0, 0, nil, true, true, []uint64{0}})
	hold(t, "2 of none", d, 2, answers{})
	d = ite.New(1, 10)
	a := d.Lit(0)
	hold(t, "a", d, a, answers{1, 1, 1, []int{1}, true, false, []uint64{1}})
	hold(t, "not a", d, d.Not(a), answers{1, 0, 0, []int{0}, true, false, []uint64{0}})
	hold(t, "1 of one", d, 1, answers{2, 0, 1, []int{-1}, true, true, []uint64{0, 1}})
}

// TestP18_1Nil: nil, of which the chapter doesn't speak, doesn't panic.
func TestP18_1Nil(t *testing.T) {
	for _, f := range append(outside(0), 0) {
		hold(t, "nil", nil, f, answers{})
		if !sat.Entails(nil, f, 1) || sat.Entails(nil, 1, f) {
			t.Errorf("nil: %d and 1", f)
		}
	}
	hold(t, "1 of nil", nil, 1, answers{1, 0, 0, nil, true, true, []uint64{0}})
}

// TestP18_1New: what is answered is new each time.
func TestP18_1New(t *testing.T) {
	d := ite.New(3, 100)
	f := d.Or(d.Lit(2), d.Lit(0))
	l := sat.First(d, f, 10)
	path, _ := sat.Path(d, f)
	for i := range l {
		l[i] = 99
	}
	for v := range path {
		path[v] = 99
	}
	hold(t, "once more", d, f, answers{6, 1, 7, []int{0, -1, 1}, true, false, []uint64{1, 3, 4, 5, 6, 7}})
}
