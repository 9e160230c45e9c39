package quant_test

import (
	"slices"
	"testing"

	"crupper/api"
	"crupper/ite"
	"crupper/plain"
	"crupper/quant"
)

// TestP17_2Told: of diagrams that are simple.
func TestP17_2Told(t *testing.T) {
	d := ite.New(5, 200)
	a, b, c, e := d.Lit(0), d.Lit(1), d.Lit(2), d.Lit(4)
	for _, x := range []struct {
		what    string
		f, size int
		support []int
	}{
		{"0", 0, 0, nil},
		{"1", 1, 0, nil},
		{"a", a, 1, []int{0}},
		{"e", e, 1, []int{4}},
		{"not c", d.Not(c), 1, []int{2}},
		{"e and a", d.And(e, a), 2, []int{0, 4}},
		{"e or b or a", d.Or(e, b, a), 3, []int{0, 1, 4}},
		{"a xor b", d.Xor(a, b), 3, []int{0, 1}},
		{"a xor b xor c", d.Xor(a, d.Xor(b, c)), 5, []int{0, 1, 2}},
		{"a or not a, or b", d.Or(a, d.Not(a), b), 0, nil},
		{"a and b, or not a and b", d.Or(d.And(a, b), d.Less(a, b)), 1, []int{1}},
		{"if c, a, else b", d.Ite(c, a, b), 5, []int{0, 1, 2}},
		{"if a, c, else e", d.Ite(a, c, e), 3, []int{0, 2, 4}},
		{"a and c, or b and c", d.Or(d.And(a, c), d.And(b, c)), 3, []int{0, 1, 2}},
	} {
		if n, l := quant.Size(d, x.f), quant.Support(d, x.f); n != x.size || !slices.Equal(l, x.support) {
			t.Errorf("%s: %d nodes, of the variables %v, not %d, %v", x.what, n, l, x.size, x.support)
		}
	}
}

// TestP17_2Wrong: numbers that are no node have none.
func TestP17_2Wrong(t *testing.T) {
	d := ite.New(3, 100)
	d.Or(d.Lit(0), d.And(d.Lit(1), d.Lit(2)))
	for _, bad := range outside(int(d.Len())) {
		if n, l := quant.Size(d, bad), quant.Support(d, bad); n != 0 || len(l) != 0 {
			t.Errorf("%d: %d nodes, of the variables %v", bad, n, l)
		}
	}
}

// parts are the functions that one comes to from a row, ahead of its variable v, by the variables ahead of that, each once, but those that are the same with it as without it.
func parts(row string, v int) int {
	vars, found := plain.Vars(row), map[string]bool{}
	for first := range 1 << v {
		rest := plain.Row(vars-v, func(bits int) bool { return row[bits<<v|first] == '1' })
		if restricted(rest, 0, false) != restricted(rest, 0, true) {
			found[rest] = true
		}
	}
	return len(found)
}

// TestP17_2Drawn: a drawn diagram has a node for each part of its function, and the variables at which that changes.
func TestP17_2Drawn(t *testing.T) {
	dice := plain.Dice(172)
	for i := range 2000 {
		vars := i % 8
		d := ite.New(vars, api.MaxBudget)
		row := dice.Row(vars)
		f := plain.Diagram(row, d.Make)
		var support []int
		size := 0
		for v := range vars {
			if restricted(row, v, false) != restricted(row, v, true) {
				support = append(support, v)
			}
			size += parts(row, v)
		}
		nodes := d.Len()
		if n, l := quant.Size(d, f), quant.Support(d, f); n != size || !slices.Equal(l, support) {
			t.Fatalf("%s: %d nodes, of the variables %v, not %d, %v", row, n, l, size, support)
		}
		if int64(size) != nodes || d.Len() != nodes {
			t.Fatalf("%s: %d nodes, then %d, not %d", row, nodes, d.Len(), size)
		}
	}
}

// TestP17_2Full: what asks alone needs no nodes, nor does what changes nothing.
func TestP17_2Full(t *testing.T) {
	d := ite.New(3, 5)
	f := d.Xor(d.Xor(d.Lit(2), d.Lit(1)), d.Lit(0))
	if !d.Spent() {
		t.Fatal("five nodes are enough")
	}
	d = ite.New(3, 7)
	f = d.Xor(d.Xor(d.Lit(2), d.Lit(1)), d.Make(0, 0, 1))
	if n, l := quant.Size(d, f), quant.Support(d, f); n != 5 || !slices.Equal(l, []int{0, 1, 2}) || d.Spent() || d.Len() != 7 {
		t.Errorf("%d nodes of %d, of the variables %v, spent %v", n, d.Len(), l, d.Spent())
	}
	hold(t, []told{
		{"Restrict", quant.Restrict(d, f, 3, true), f},
		{"Some", quant.Some(d, f, 2), 1},
		{"Some", quant.Some(d, f, 1, 2), 1},
		{"Each", quant.Each(d, f, 0), 0},
		{"Put", quant.Put(d, f, -1, 0), f},
	})
	if d.Spent() || d.Len() != 7 {
		t.Errorf("%d nodes, spent %v", d.Len(), d.Spent())
	}
}
