package ite_test

import (
	"math"
	"slices"
	"testing"

	"crupper/api"
	"crupper/ite"
	"crupper/plain"
)

// outside are numbers that are no node, if there are n beside 0 and 1.
func outside(n int) []int {
	return []int{math.MinInt, math.MinInt + 1, math.MinInt32, -n - 2, -2, -1, n + 2, n + 3, n + 64, 1 << 32, 1<<32 + 1, math.MaxInt - 1, math.MaxInt}
}

// width is at how many bits a function of so many variables is told.
func width(vars int) int {
	n := 1
	for range vars {
		n *= 2
	}
	return n
}

// so is the truth of that variable, by the bits.
func so(bits, v int) bool {
	for range v {
		bits /= 2
	}
	return bits%2 == 1
}

// row is where a function is true, of so many variables: a 1 in the place of the bits.
func row(vars int, is func(bits int) bool) string {
	l := make([]byte, width(vars))
	for bits := range l {
		l[bits] = '0'
		if is(bits) {
			l[bits] = '1'
		}
	}
	return string(l)
}

// rowOf is where the diagram is true; the variables that there aren't are true, or aren't, too, and change nothing.
func rowOf(t *testing.T, d *ite.BDD, f int) string {
	t.Helper()
	got := row(d.Vars(), func(bits int) bool { return d.At(f, uint64(bits)) })
	if more := row(d.Vars(), func(bits int) bool { return d.At(f, uint64(bits)|math.MaxUint64<<d.Vars()) }); more != got {
		t.Errorf("%d is true at %s, with all that are above at %s", f, got, more)
	}
	return got
}

// world is diagrams, where each of them is to be true, and how many calls there were.
type world struct {
	*ite.BDD
	rows   []string // of 0, 1, and all that were told
	nodes  []int
	counts int64
}

func newWorld(vars int, budget int64) *world {
	w := &world{BDD: ite.New(vars, budget)}
	w.add(0, row(vars, func(int) bool { return false }))
	w.add(1, row(vars, func(int) bool { return true }))
	return w
}

func (w *world) add(f int, is string) {
	w.nodes, w.rows = append(w.nodes, f), append(w.rows, is)
}

// law is P16.5: how many nodes there may be.
func (w *world) law(t *testing.T, what string) {
	t.Helper()
	if got := w.Calls(); got != w.counts {
		t.Fatalf("%s: %d calls, not %d", what, got, w.counts)
	}
	if most := w.counts * int64(width(w.Vars()+1)); w.Len() > most {
		t.Fatalf("%s: %d nodes, more than %d", what, w.Len(), most)
	}
}

// told holds the diagram that a call answered against where it is to be true, and against all ahead of it.
func (w *world) told(t *testing.T, what string, f int, is string) {
	t.Helper()
	if !w.Is(f) || w.Spent() {
		t.Fatalf("%s: %d is %v, spent %v", what, f, w.Is(f), w.Spent())
	}
	if got := rowOf(t, w.BDD, f); got != is {
		t.Fatalf("%s: %d is true at %s, not %s", what, f, got, is)
	}
	for i, other := range w.rows {
		if (w.nodes[i] == f) != (other == is) {
			t.Fatalf("%s: %d and %d are true at %s and %s", what, f, w.nodes[i], is, other)
		}
	}
	w.law(t, what)
	w.add(f, is)
}

// by is the function that is so where those of the rows are as asked.
func (w *world) by(is func(bits int) bool) string { return row(w.Vars(), is) }

// at: is the i-th of the diagrams to be true at the bits?
func (w *world) at(i, bits int) bool { return w.rows[i][bits] == '1' }

// some draws at most n places of diagrams.
func (w *world) some(dice *plain.Dice, n int) []int {
	var l []int
	for range dice.Below(n + 1) {
		l = append(l, dice.Below(len(w.nodes)))
	}
	return l
}

// numbers are the diagrams at those places.
func (w *world) numbers(places []int) []int {
	var l []int
	for _, i := range places {
		l = append(l, w.nodes[i])
	}
	return l
}

// all: are all of them to be true at the bits?
func (w *world) all(places []int, bits int) bool {
	return !slices.ContainsFunc(places, func(i int) bool { return !w.at(i, bits) })
}

// one: is one of them?
func (w *world) one(places []int, bits int) bool {
	return slices.ContainsFunc(places, func(i int) bool { return w.at(i, bits) })
}

// lit calls Lit.
func (w *world) lit(t *testing.T, v int) {
	t.Helper()
	w.counts++
	f := w.Lit(v)
	w.told(t, "Lit", f, w.by(func(bits int) bool { return 0 <= v && v < w.Vars() && so(bits, v) }))
}

// ite calls Ite.
func (w *world) ite(t *testing.T, f, g, h int) {
	t.Helper()
	w.counts++
	n := w.Ite(w.nodes[f], w.nodes[g], w.nodes[h])
	w.told(t, "Ite", n, w.by(func(bits int) bool {
		if w.at(f, bits) {
			return w.at(g, bits)
		}
		return w.at(h, bits)
	}))
}

// not calls Not.
func (w *world) not(t *testing.T, f int) {
	t.Helper()
	w.counts++
	n := w.Not(w.nodes[f])
	w.told(t, "Not", n, w.by(func(bits int) bool { return !w.at(f, bits) }))
}

// two calls Xor and Less.
func (w *world) two(t *testing.T, f, g int) {
	t.Helper()
	w.counts++
	n := w.Xor(w.nodes[f], w.nodes[g])
	w.told(t, "Xor", n, w.by(func(bits int) bool { return w.at(f, bits) != w.at(g, bits) }))
	w.counts++
	n = w.Less(w.nodes[f], w.nodes[g])
	w.told(t, "Less", n, w.by(func(bits int) bool { return w.at(g, bits) && !w.at(f, bits) }))
}

// and calls And, of diagrams that aren't changed by it.
func (w *world) and(t *testing.T, places ...int) {
	t.Helper()
	l := w.numbers(places)
	asked := slices.Clone(l)
	w.counts += int64(len(l))
	n := w.And(asked...)
	if !slices.Equal(asked, l) {
		t.Fatalf("And makes %v of %v", asked, l)
	}
	w.told(t, "And", n, w.by(func(bits int) bool { return w.all(places, bits) }))
}

// or calls Or, of diagrams that aren't changed by it.
func (w *world) or(t *testing.T, places ...int) {
	t.Helper()
	l := w.numbers(places)
	asked := slices.Clone(l)
	w.counts += int64(len(l))
	n := w.Or(asked...)
	if !slices.Equal(asked, l) {
		t.Fatalf("Or makes %v of %v", asked, l)
	}
	w.told(t, "Or", n, w.by(func(bits int) bool { return w.one(places, bits) }))
}

// draw makes one call or two, of diagrams that there are.
func (w *world) draw(t *testing.T, dice *plain.Dice) {
	t.Helper()
	one := func() int { return dice.Below(len(w.nodes)) }
	switch dice.Below(6) {
	case 0:
		w.lit(t, dice.Below(w.Vars()+2)-1)
	case 1:
		w.ite(t, one(), one(), one())
	case 2:
		w.not(t, one())
	case 3:
		w.two(t, one(), one())
	case 4:
		w.and(t, w.some(dice, 5)...)
	default:
		w.or(t, w.some(dice, 5)...)
	}
}

// TestP16_2Drawn: what drawn calls answer is true just where it is to be, and nowhere else.
func TestP16_2Drawn(t *testing.T) {
	dice := plain.Dice(16)
	for vars := range 8 {
		for range 30 {
			w := newWorld(vars, api.MaxBudget)
			for v := range vars {
				w.lit(t, v)
			}
			for range 40 {
				w.draw(t, &dice)
			}
		}
	}
}

// TestP16_2All: each call, of all functions of two variables, and of three of them for Ite.
func TestP16_2All(t *testing.T) {
	w := newWorld(2, api.MaxBudget)
	w.lit(t, 0)
	w.lit(t, 1)
	for len(distinct(w.nodes)) < 16 {
		for f := range len(w.nodes) {
			w.not(t, f)
			for g := range f {
				w.two(t, f, g)
			}
		}
		w.onceEach()
	}
	for f := range 16 {
		w.not(t, f)
		w.and(t, f)
		w.or(t, f)
		for g := range 16 {
			w.two(t, f, g)
			w.and(t, f, g)
			w.or(t, f, g)
			for h := range 16 {
				w.ite(t, f, g, h)
				w.and(t, f, g, h)
				w.or(t, f, g, h)
			}
		}
		w.onceEach()
	}
	if w.Len() != 14 {
		t.Errorf("%d nodes for the 14 functions that change", w.Len())
	}
}

// distinct are these, each once.
func distinct(l []int) []int {
	l = slices.Clone(l)
	slices.Sort(l)
	return slices.Compact(l)
}

// onceEach forgets the diagrams that were told twice; the first ones stay at their places.
func (w *world) onceEach() {
	nodes, rows := w.nodes, w.rows
	w.nodes, w.rows = nil, nil
	for i, f := range nodes {
		if !slices.Contains(w.nodes, f) {
			w.add(f, rows[i])
		}
	}
}
