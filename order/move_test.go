package order_test

import (
	"math"
	"slices"
	"testing"

	"crupper/api"
	"crupper/ite"
	"crupper/order"
	"crupper/plain"
	"crupper/quant"
)

// outside are numbers that are no node, if there are n beside 0 and 1.
func outside(n int) []int {
	return []int{math.MinInt, math.MinInt32, -n - 2, -2, -1, n + 2, n + 3, n + 64, 1 << 32, 1<<32 + 1, math.MaxInt}
}

// byRow is a row, of which each truth of its variables comes to the place that an order tells.
func byRow(row string, l []int) string {
	moved := make([]byte, len(row))
	for bits := range row {
		there := 0
		for v, at := range l {
			there = plain.With(there, at, bits>>v&1 == 1)
		}
		moved[there] = row[bits]
	}
	return string(moved)
}

// TestP37_2Told: the chapter's example, and some more.
func TestP37_2Told(t *testing.T) {
	d := ite.New(3, 200)
	a, b, c := d.Lit(0), d.Lit(1), d.Lit(2)
	for _, x := range []struct {
		what    string
		f, want int
		l       []int
	}{
		{"a by 1, 0, 2", a, b, []int{1, 0, 2}},
		{"a by 1, 2, 0", a, b, []int{1, 2, 0}},
		{"b by 1, 2, 0", b, c, []int{1, 2, 0}},
		{"c by 1, 2, 0", c, a, []int{1, 2, 0}},
		{"if a, b, else c, by 1, 2, 0", d.Ite(a, b, c), d.Ite(b, c, a), []int{1, 2, 0}},
		{"if a, b, else c, by 2, 1, 0", d.Ite(a, b, c), d.Ite(c, b, a), []int{2, 1, 0}},
		{"a, not b, by 1, 0, 2", d.Less(b, a), d.Less(a, b), []int{1, 0, 2}},
		{"a xor c, by 0, 2, 1", d.Xor(a, c), d.Xor(a, b), []int{0, 2, 1}},
		{"0", 0, 0, []int{2, 1, 0}},
		{"1", 1, 1, []int{2, 1, 0}},
	} {
		if f, ok := order.Move(d, x.f, x.l...); f != x.want || !ok {
			t.Errorf("%s: %d, %v, not %d", x.what, f, ok, x.want)
		}
	}
	d = ite.New(2, 10)
	if f, ok := order.Move(d, d.Lit(0), 1, 0); f != d.Lit(1) || !ok {
		t.Errorf("Lit(0) by 1, 0: %d, %v", f, ok)
	}
}

// TestP37_2Drawn: drawn diagrams by drawn orders, against their rows, and back (P37.3).
func TestP37_2Drawn(t *testing.T) {
	dice := plain.Dice(372)
	for i := range 2000 {
		vars := i % 9
		d := ite.New(vars, api.MaxBudget)
		row, l := dice.Row(vars), shuffled(&dice, vars)
		f := plain.Diagram(row, d.Make)
		moved, ok := order.Move(d, f, l...)
		if want := plain.Diagram(byRow(row, l), d.Make); moved != want || !ok {
			t.Fatalf("%s by %v: %d, %v, not %d", row, l, moved, ok, want)
		}
		if back, ok := order.Move(d, moved, order.Back(l...)...); back != f || !ok {
			t.Errorf("%s by %v, and back: %d, %v, not %d", row, l, back, ok, f)
		}
		for bits := range len(row) {
			if d.At(moved, order.Bits(uint64(bits), l...)) != d.At(f, uint64(bits)) {
				t.Errorf("%s by %v: it is otherwise at %b", row, l, bits)
			}
		}
		next := shuffled(&dice, vars)
		both, _ := order.Move(d, moved, next...)
		if again, ok := order.Move(d, f, order.Then(l, next)...); again != both || !ok {
			t.Errorf("%s by %v, then %v: %d, %v, not %d", row, l, next, again, ok, both)
		}
	}
}

// TestP37_2All: all functions of three variables by all orders.
func TestP37_2All(t *testing.T) {
	for number := range 256 {
		row := plain.Row(3, func(bits int) bool { return number>>bits&1 == 1 })
		for _, l := range rows(3, 0, 3) {
			if !right(3, l) {
				continue
			}
			d := ite.New(3, api.MaxBudget)
			if f, ok := order.Move(d, plain.Diagram(row, d.Make), l...); f != plain.Diagram(byRow(row, l), d.Make) || !ok {
				t.Errorf("%s by %v: %d, %v", row, l, f, ok)
			}
		}
	}
}

// TestP37_2Wrong: orders that aren't right for d's variables, and numbers that are no node: nothing is made.
func TestP37_2Wrong(t *testing.T) {
	for _, vars := range []int{0, 1, 3} {
		d := ite.New(vars, 100)
		last := max(1, d.Lit(0))
		for n := range 5 {
			for _, l := range rows(n, -1, min(n+1, 4)) {
				for _, f := range []int{0, 1, last} {
					nodes, calls := d.Len(), d.Calls()
					moved, ok := order.Move(d, f, l...)
					if ok != right(vars, l) {
						t.Errorf("of %d variables %d by %v: %v", vars, f, l, ok)
					}
					if !ok && (moved != 0 || d.Len() != nodes || d.Calls() != calls) {
						t.Errorf("of %d variables %d by %v: %d; %d nodes", vars, f, l, moved, d.Len())
					}
				}
			}
		}
		nodes, calls := d.Len(), d.Calls()
		for _, bad := range outside(int(nodes)) {
			if f, ok := order.Move(d, bad, stay(vars)...); f != 0 || ok {
				t.Errorf("%d: %d, %v", bad, f, ok)
			}
			if l, size := order.Best(d, bad, 5); len(l) != 0 || size != 0 {
				t.Errorf("%d: %v, %d", bad, l, size)
			}
		}
		if d.Len() != nodes || d.Calls() != calls || d.Spent() {
			t.Errorf("of %d variables: %d nodes, not %d", vars, d.Len(), nodes)
		}
	}
}

// TestP37_2Budget: no more nodes are asked for than the answer has; with one less there is none.
func TestP37_2Budget(t *testing.T) {
	dice := plain.Dice(3722)
	for range 300 {
		row, l := dice.Row(6), shuffled(&dice, 6)
		free := ite.New(6, api.MaxBudget)
		f := plain.Diagram(row, free.Make)
		had := free.Len()
		want := plain.Diagram(byRow(row, l), free.Make)
		for _, budget := range []int64{had, (had + free.Len()) / 2, max(had, free.Len()-1), free.Len(), free.Len() + 1} {
			d := ite.New(6, budget)
			plain.Diagram(row, d.Make)
			moved, ok := order.Move(d, f, l...)
			if lasts := budget >= free.Len(); ok != lasts || d.Spent() == lasts || lasts && moved != want && !sameAt(d, moved, free, want) || !lasts && moved != 0 {
				t.Fatalf("%s by %v: budget %d: %d, %v, spent %v; %d nodes are enough", row, l, budget, moved, ok, d.Spent(), free.Len())
			}
			if d.Spent() {
				if moved, ok := order.Move(d, 1, l...); moved != 0 || ok {
					t.Errorf("spent: %d, %v", moved, ok)
				}
				if best, size := order.Best(d, 1, 3); len(best) != 0 || size != 0 {
					t.Errorf("spent: %v, %d", best, size)
				}
			}
		}
	}
}

// sameAt: are both true at the same bits, of six variables?
func sameAt(a *ite.BDD, f int, b *ite.BDD, g int) bool {
	for bits := range uint64(64) {
		if a.At(f, bits) != b.At(g, bits) {
			return false
		}
	}
	return true
}

// TestP37_2Large: of 61 variables: pairs that stand far from each other come together, and go back.
func TestP37_2Large(t *testing.T) {
	const vars, pairs = api.MaxBits, 30
	d := ite.New(vars, api.MaxBudget)
	together, l := 0, make([]int, vars)
	for i := range 12 {
		together = d.Or(together, d.And(d.Lit(2*i), d.Lit(2*i+1)))
	}
	for i := range pairs { // of each pair one comes to the first half, and one to the second half
		l[2*i], l[2*i+1] = i, i+pairs
	}
	l[vars-1] = vars - 1
	apart, ok := order.Move(d, together, l...)
	if !ok || quant.Size(d, together) != 24 || quant.Size(d, apart) != 1<<13-2 {
		t.Fatalf("%d nodes come to %d, %v", quant.Size(d, together), quant.Size(d, apart), ok)
	}
	if back, ok := order.Move(d, apart, order.Back(l...)...); back != together || !ok {
		t.Errorf("back: %d, %v, not %d", back, ok, together)
	}
	dice := plain.Dice(37)
	f := 0 // two that stand side by side are true
	for v := range vars - 1 {
		f = d.Or(f, d.And(d.Lit(v), d.Lit(v+1)))
	}
	for v := 0; v+4 <= vars; v += 4 { // each changes with some that stand near it
		for i, at := range shuffled(&dice, 4) {
			l[v+i] = v + at
		}
	}
	moved, ok := order.Move(d, f, l...)
	if !ok || moved == f {
		t.Fatalf("%d is moved to %d, %v", f, moved, ok)
	}
	for range 2000 {
		b := uint64(dice.Below(1<<31)) << 31 & uint64(dice.Below(1<<31)) << 31
		b |= uint64(dice.Below(1<<31)) & uint64(dice.Below(1<<31))
		if d.At(moved, order.Bits(b, l...)) != d.At(f, b) {
			t.Fatalf("it is otherwise at %b", b)
		}
	}
	odd := 0
	for v := range vars {
		odd = d.Xor(odd, d.Lit(v))
	}
	if same, ok := order.Move(d, odd, shuffled(&dice, vars)...); same != odd || !ok {
		t.Errorf("an odd number of all: %d, %v, not %d", same, ok, odd)
	}
}

// best goes by the words, in a BDD of its own.
func best(row string, tries int) ([]int, int) {
	vars := plain.Vars(row)
	d := ite.New(vars, api.MaxBudget)
	f := plain.Diagram(row, d.Make)
	size := func(l []int) int { return quant.Size(d, plain.Diagram(byRow(row, l), d.Make)) }
	l := stay(vars)
	nodes := quant.Size(d, f)
	for range max(0, min(tries, 100)) {
		var fewest []int
		for i := range vars {
			if next := order.Then(l, order.Swap(vars, i)); fewest == nil || size(next) < size(fewest) {
				fewest = next
			}
		}
		if fewest == nil || size(fewest) >= nodes {
			break
		}
		l, nodes = fewest, size(fewest)
	}
	return l, nodes
}

// TestP37_2Best: of drawn diagrams, after so many tries.
func TestP37_2Best(t *testing.T) {
	dice := plain.Dice(3729)
	gained := 0
	for i := range 400 {
		vars := i % 7
		row := dice.Row(vars)
		for _, tries := range []int{math.MinInt, -1, 0, 1, 2, 3, 5, 99, 100, 101, math.MaxInt} {
			d := ite.New(vars, api.MaxBudget)
			f := plain.Diagram(row, d.Make)
			want, nodes := best(row, tries)
			l, size := order.Best(d, f, tries)
			if !slices.Equal(l, want) || size != nodes {
				t.Fatalf("%s, %d tries: %v, %d, not %v, %d", row, tries, l, size, want, nodes)
			}
			if moved, ok := order.Move(d, f, l...); !ok || quant.Size(d, moved) != size || size > quant.Size(d, f) {
				t.Errorf("%s, %d tries: %v has %d nodes, not %d; %d ahead", row, tries, l, quant.Size(d, moved), size, quant.Size(d, f))
			}
			if size < quant.Size(d, f) {
				gained++
			}
		}
	}
	if gained < 400 {
		t.Errorf("%d times there were fewer", gained)
	}
}

// far is a diagram for which the first variable had better be the last but one, step by step; of so many others the number of those that are true counts.
func far(d *ite.BDD) int {
	f := d.And(d.Lit(0), d.Lit(d.Vars()-1))
	for v := 1; v < d.Vars()-1; v++ {
		f = d.Xor(f, d.Lit(v))
	}
	return f
}

// TestP37_2Far: each try goes one place on, and no more tries are made than are asked for.
func TestP37_2Far(t *testing.T) {
	const vars = 30
	for _, tries := range []int{0, 1, 2, 20, vars - 3, vars - 2, vars - 1, 1000} {
		d := ite.New(vars, api.MaxBudget)
		f := far(d)
		steps := max(0, min(tries, vars-2))
		l, size := order.Best(d, f, tries)
		if !right(vars, l) {
			t.Fatalf("%d tries: %v", tries, l)
		}
		moved := 0
		for v, at := range l { // places that were passed over
			for w := range v {
				if l[w] > at {
					moved++
				}
			}
		}
		if moved != steps || size > quant.Size(d, f)-steps {
			t.Errorf("%d tries: %v, of %d steps; %d nodes of %d", tries, l, moved, size, quant.Size(d, f))
		}
	}
}

// TestP37_2Hundred: where more than a hundred tries would go on, a hundred are made.
func TestP37_2Hundred(t *testing.T) {
	const vars = api.MaxBits
	d := ite.New(vars, api.MaxBudget)
	f := d.Xor(d.And(d.Lit(0), d.Lit(vars-1)), d.And(d.Lit(1), d.Lit(vars-2)))
	for v := 2; v < vars-2; v++ {
		f = d.Xor(f, d.Lit(v))
	}
	l, size := order.Best(d, f, 100)
	if more, nodes := order.Best(d, f, math.MaxInt); !slices.Equal(more, l) || nodes != size {
		t.Errorf("%v, %d; with more tries %v, %d", l, size, more, nodes)
	}
	moved, _ := order.Move(d, f, l...)
	if last, nodes := order.Best(d, moved, 1); nodes >= size || slices.Equal(last, stay(vars)) {
		t.Errorf("there was no more to be won: %d nodes, %d after one try more", size, nodes)
	}
	if fewer, nodes := order.Best(d, f, 99); nodes <= size || slices.Equal(fewer, l) {
		t.Errorf("the last try won nothing: %d nodes, %d with one try less", size, nodes)
	}
}

// TestP37_2BestSpent: with a budget that doesn't last there is none; with one that does, it is the same.
func TestP37_2BestSpent(t *testing.T) {
	row := plain.Row(4, func(bits int) bool { return bits&5 == 5 || bits&10 == 10 })
	want, nodes := best(row, 100)
	lasted := 0
	for budget := range int64(60) {
		d := ite.New(4, budget)
		f := plain.Diagram(row, d.Make)
		if d.Spent() {
			continue
		}
		l, size := order.Best(d, f, 100)
		if d.Spent() && (len(l) != 0 || size != 0) || !d.Spent() && (!slices.Equal(l, want) || size != nodes) {
			t.Errorf("budget %d: %v, %d, spent %v, not %v, %d", budget, l, size, d.Spent(), want, nodes)
		}
		if !d.Spent() {
			lasted++
		}
	}
	if lasted == 0 || lasted > 55 || nodes != 4 {
		t.Errorf("%d budgets were enough; %d nodes", lasted, nodes)
	}
	d := ite.New(4, 6)
	if l, size := order.Best(d, plain.Diagram(row, d.Make), 0); !slices.Equal(l, stay(4)) || size != 6 || d.Spent() {
		t.Errorf("no try: %v, %d, spent %v", l, size, d.Spent())
	}
}

// TestP37_2Nil: in nil, of which the chapter doesn't speak, nothing is moved.
func TestP37_2Nil(t *testing.T) {
	for _, f := range append(outside(0), 0, 1) {
		for n := range 3 {
			if g, ok := order.Move(nil, f, stay(n)...); g != 0 || ok {
				t.Errorf("%d: %d, %v", f, g, ok)
			}
			if l, size := order.Best(nil, f, n); len(l) != 0 || size != 0 {
				t.Errorf("%d: %v, %d", f, l, size)
			}
		}
	}
}

// TestP37_2Ends: what would have very many nodes ends when the budget does.
func TestP37_2Ends(t *testing.T) {
	d := ite.New(60, 1000)
	f, l := 0, make([]int, 60)
	for i := range 30 {
		f = d.Or(d.And(d.Lit(59-2*i), d.Lit(58-2*i)), f)
		l[2*i], l[2*i+1] = i, i+30
	}
	if d.Spent() {
		t.Fatal("spent ahead")
	}
	if moved, ok := order.Move(d, f, l...); moved != 0 || ok || !d.Spent() || d.Len() > 1000 {
		t.Errorf("%d, %v: %d nodes, spent %v", moved, ok, d.Len(), d.Spent())
	}
}
