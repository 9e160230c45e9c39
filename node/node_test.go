package node_test

import (
	"math"
	"slices"
	"testing"

	"crupper/api"
	"crupper/node"
	"crupper/plain"
)

// words is a table by the chapter's words: its nodes are looked through one by one.
type words struct {
	vars   int
	budget int64
	spent  bool
	nodes  []api.Node
}

func (w *words) is(n int) bool { return n >= 0 && n <= len(w.nodes)+1 }

func (w *words) variable(n int) int {
	if n < 2 || !w.is(n) {
		return w.vars
	}
	return w.nodes[n-2].Var
}

func (w *words) make(v, lo, hi int) (int, api.Errno) {
	if v < 0 || v >= w.vars || !w.is(lo) || !w.is(hi) || v >= w.variable(lo) || v >= w.variable(hi) {
		return 0, api.ErrArg
	}
	if lo == hi {
		return lo, api.OK
	}
	for i, parts := range w.nodes {
		if parts.Var == v && parts.Lo == lo && parts.Hi == hi {
			return i + 2, api.OK
		}
	}
	if int64(len(w.nodes)) == w.budget {
		w.spent = true
		return 0, api.ErrSpent
	}
	w.nodes = append(w.nodes, api.Node{Var: v, Lo: lo, Hi: hi})
	return len(w.nodes) + 1, api.OK
}

func (w *words) at(n int, bits uint64) bool {
	if n < 2 || !w.is(n) {
		return n == 1
	}
	if parts := w.nodes[n-2]; so(bits, parts.Var) {
		return w.at(parts.Hi, bits)
	}
	return w.at(w.nodes[n-2].Lo, bits)
}

// so is the truth of that variable, by the bits.
func so(bits uint64, v int) bool {
	for range v {
		bits /= 2
	}
	return bits%2 == 1
}

// outside are numbers that a row of so many hasn't.
func outside(n int) []int {
	return []int{math.MinInt, math.MinInt + 1, math.MinInt32, -n, -2, -1, n, n + 1, n + 2, n + 64, 1 << 32, 1<<32 + 2, math.MaxInt - 1, math.MaxInt}
}

// someBits are bits of so many variables, all of them if these are few, and what stands above them.
func someBits(vars int) []uint64 {
	l := []uint64{math.MaxUint64, 1 << 63, 1 << 62, 1<<63 | 1, 1 << vars, math.MaxUint64 << vars}
	for bits := range uint64(1) << min(vars, 5) {
		l = append(l, bits, bits<<max(0, vars-5))
	}
	return l
}

// has holds a table against all that is to be told of it.
func has(t *testing.T, what string, got *node.Table, w *words) {
	t.Helper()
	if got.Vars() != w.vars || got.Len() != int64(len(w.nodes)) || got.Spent() != w.spent {
		t.Errorf("%s: %d variables, %d nodes, spent %v, not %d, %d, %v", what, got.Vars(), got.Len(), got.Spent(), w.vars, len(w.nodes), w.spent)
	}
	ends := []int{0, 1}
	for _, n := range append(outside(len(w.nodes)+2), ends...) {
		if got.Is(n) != (n == 0 || n == 1) || got.Var(n) != w.vars {
			t.Errorf("%s: %d is %v, of the variable %d", what, n, got.Is(n), got.Var(n))
		}
		if parts, ok := got.Get(n); ok || parts != (api.Node{}) {
			t.Errorf("%s: %d has the parts %v, %v", what, n, parts, ok)
		}
		for _, bits := range someBits(w.vars) {
			if got.At(n, bits) != (n == 1) {
				t.Errorf("%s: %d is %v at %b", what, n, n != 1, bits)
			}
		}
	}
	for i, want := range w.nodes {
		n := i + 2
		if parts, ok := got.Get(n); !ok || parts != want || !got.Is(n) || got.Var(n) != want.Var {
			t.Errorf("%s: %d is %v, %v, %v, of the variable %d, not %v", what, n, got.Is(n), parts, ok, got.Var(n), want)
		}
		for _, bits := range someBits(w.vars) {
			if is := w.at(n, bits); got.At(n, bits) != is {
				t.Errorf("%s: %d, %v, is %v at %b", what, n, want, !is, bits)
			}
		}
	}
}

// makes holds what Make answers against what it is to.
func makes(t *testing.T, what string, got *node.Table, w *words, v, lo, hi int) int {
	t.Helper()
	want, wanted := w.make(v, lo, hi)
	n, why := got.Make(v, lo, hi)
	if n != want || why != wanted || got.Spent() != w.spent || got.Len() != int64(len(w.nodes)) {
		t.Fatalf("%s: Make(%d, %d, %d) is %d, %d, of %d nodes, spent %v, not %d, %d, of %d, %v", what, v, lo, hi, n, why, got.Len(), got.Spent(), want, wanted, len(w.nodes), w.spent)
	}
	return n
}

var vars = []struct{ asked, want int }{
	{math.MinInt, 0}, {-61, 0}, {-1, 0}, {0, 0}, {1, 1}, {2, 2}, {3, 3}, {31, 31}, {32, 32}, {60, 60}, {61, 61},
	{62, 61}, {63, 61}, {64, 61}, {65, 61}, {1 << 32, 61}, {1<<32 + 3, 61}, {math.MaxInt, 61},
}

var budgets = []struct{ asked, want int64 }{
	{math.MinInt64, 0}, {-1 << 32, 0}, {-1, 0}, {0, 0}, {1, 1}, {2, 2}, {3, 3}, {1 << 31, 1 << 31}, {1 << 32, 1 << 32}, {1<<32 + 1, 1<<32 + 1}, {api.MaxBudget - 1, api.MaxBudget - 1}, {api.MaxBudget, api.MaxBudget},
}

func TestP14_1New(t *testing.T) {
	for _, v := range vars {
		for _, b := range budgets {
			got, w := node.New(v.asked, b.asked), &words{vars: v.want, budget: b.want}
			if got == nil {
				t.Fatalf("no table of %d, %d", v.asked, b.asked)
			}
			has(t, "new", got, w)
			makes(t, "beyond", got, w, v.want, 0, 1)
			makes(t, "below", got, w, -1, 0, 1)
			for _, parts := range [][2]int{{0, 1}, {1, 0}, {0, 1}} {
				makes(t, "last", got, w, v.want-1, parts[0], parts[1])
				makes(t, "first", got, w, 0, parts[0], parts[1])
			}
			has(t, "with some nodes", got, w)
		}
	}
}

// TestP14_1Nil: what is nil is as of New(0, 0), whatever it was asked.
func TestP14_1Nil(t *testing.T) {
	var none *node.Table
	for range 2 {
		has(t, "nil", none, &words{})
		for _, v := range append(outside(0), 0, 1) {
			for _, n := range append(outside(2), 0, 1) {
				if made, why := none.Make(v, n, 1-n); made != 0 || why != api.ErrArg {
					t.Errorf("nil makes %d, %d of %d, %d", made, why, v, n)
				}
				if made, why := none.Make(v, n, n); made != 0 || why != api.ErrArg {
					t.Errorf("nil makes %d, %d of %d, %d twice", made, why, v, n)
				}
			}
		}
	}
	made, why := node.New(0, 0).Make(0, 0, 1)
	if made != 0 || why != api.ErrArg {
		t.Errorf("New(0, 0) makes %d, %d", made, why)
	}
}

// TestP14_1Apart: what one table has isn't in another one.
func TestP14_1Apart(t *testing.T) {
	a, b := node.New(3, 1), node.New(3, 2)
	wa, wb := &words{vars: 3, budget: 1}, &words{vars: 3, budget: 2}
	makes(t, "a", a, wa, 2, 0, 1)
	makes(t, "a, too much", a, wa, 1, 0, 1)
	has(t, "b, empty", b, wb)
	makes(t, "b", b, wb, 1, 1, 0)
	has(t, "a", a, wa)
	has(t, "b", b, wb)
}

// call is one of a row of calls of Make, and what it answers.
type call struct {
	v, lo, hi, n int
	why          api.Errno
}

var told = []struct {
	what   string
	vars   int
	budget int64
	l      []call
	spent  bool
	len    int64
}{
	{"the chapter's example", 1, 1, []call{{0, 0, 1, 2, api.OK}, {0, 0, 1, 2, api.OK}}, false, 1},
	{"numbers from 2 on", 3, 9, []call{{2, 0, 1, 2, api.OK}, {1, 0, 2, 3, api.OK}, {0, 3, 2, 4, api.OK}, {2, 1, 0, 5, api.OK}, {1, 0, 2, 3, api.OK}, {0, 3, 2, 4, api.OK}}, false, 4},
	{"what goes on with one node alone", 2, 1, []call{{0, 0, 0, 0, api.OK}, {0, 1, 1, 1, api.OK}, {1, 0, 1, 2, api.OK}, {0, 2, 2, 2, api.OK}, {1, 1, 1, 1, api.OK}}, false, 1},
	{"lo and hi are two", 2, 9, []call{{0, 0, 1, 2, api.OK}, {0, 1, 0, 3, api.OK}, {1, 0, 1, 4, api.OK}, {1, 1, 0, 5, api.OK}, {0, 4, 5, 6, api.OK}, {0, 5, 4, 7, api.OK}}, false, 6},
	{"no such variable", 2, 9, []call{{2, 0, 1, 0, api.ErrArg}, {-1, 0, 1, 0, api.ErrArg}, {61, 0, 1, 0, api.ErrArg}, {math.MaxInt, 0, 1, 0, api.ErrArg}, {math.MinInt, 0, 1, 0, api.ErrArg}, {1, 0, 1, 2, api.OK}}, false, 1},
	{"no such variable, lo is hi", 2, 9, []call{{2, 1, 1, 0, api.ErrArg}, {-1, 1, 1, 0, api.ErrArg}, {2, 0, 0, 0, api.ErrArg}}, false, 0},
	{"no such node", 2, 9, []call{{1, 0, 1, 2, api.OK}, {0, 0, 3, 0, api.ErrArg}, {0, 3, 0, 0, api.ErrArg}, {0, -1, 0, 0, api.ErrArg}, {0, 0, -1, 0, api.ErrArg}, {0, math.MinInt, 1, 0, api.ErrArg}, {0, 1, math.MaxInt, 0, api.ErrArg}, {0, 0, 2, 3, api.OK}, {0, 3, 0, 0, api.ErrArg}}, false, 2},
	{"no such node, lo is hi", 2, 9, []call{{1, 2, 2, 0, api.ErrArg}, {0, -1, -1, 0, api.ErrArg}, {0, math.MaxInt, math.MaxInt, 0, api.ErrArg}, {0, math.MinInt, math.MinInt, 0, api.ErrArg}}, false, 0},
	{"variables that don't rise", 3, 9, []call{{1, 0, 1, 2, api.OK}, {1, 0, 2, 0, api.ErrArg}, {1, 2, 0, 0, api.ErrArg}, {2, 2, 1, 0, api.ErrArg}, {2, 1, 2, 0, api.ErrArg}, {1, 2, 2, 0, api.ErrArg}, {2, 2, 2, 0, api.ErrArg}, {0, 2, 1, 3, api.OK}, {0, 1, 2, 4, api.OK}}, false, 3},
	{"no budget", 2, 0, []call{{0, 0, 0, 0, api.OK}, {0, 1, 1, 1, api.OK}, {2, 0, 1, 0, api.ErrArg}, {0, 2, 0, 0, api.ErrArg}}, false, 0},
	{"no budget, and asked", 2, -3, []call{{0, 0, 1, 0, api.ErrSpent}, {0, 1, 1, 1, api.OK}, {2, 0, 1, 0, api.ErrArg}}, true, 0},
	{"all the budget", 2, 2, []call{{1, 0, 1, 2, api.OK}, {0, 0, 2, 3, api.OK}, {0, 0, 2, 3, api.OK}, {1, 0, 1, 2, api.OK}, {0, 2, 2, 2, api.OK}, {1, 0, 3, 0, api.ErrArg}}, false, 2},
	{"more than the budget", 2, 2, []call{{1, 0, 1, 2, api.OK}, {0, 0, 2, 3, api.OK}, {0, 2, 0, 0, api.ErrSpent}}, true, 2},
	{"when it is spent", 2, 2, []call{{1, 0, 1, 2, api.OK}, {0, 0, 2, 3, api.OK}, {0, 2, 0, 0, api.ErrSpent}, {0, 2, 0, 0, api.ErrSpent}, {0, 0, 2, 3, api.OK}, {1, 0, 1, 2, api.OK}, {0, 2, 2, 2, api.OK}, {0, 0, 4, 0, api.ErrArg}, {2, 0, 1, 0, api.ErrArg}}, true, 2},
}

func TestP14_2Told(t *testing.T) {
	for _, c := range told {
		got, w := node.New(c.vars, c.budget), &words{vars: c.vars, budget: max(0, c.budget)}
		for i, m := range c.l {
			if n, why := got.Make(m.v, m.lo, m.hi); n != m.n || why != m.why {
				t.Errorf("%s, %d: Make(%d, %d, %d) is %d, %d, not %d, %d", c.what, i, m.v, m.lo, m.hi, n, why, m.n, m.why)
			}
			w.make(m.v, m.lo, m.hi)
		}
		if got.Spent() != c.spent || got.Len() != c.len {
			t.Errorf("%s: spent %v, %d nodes, not %v, %d", c.what, got.Spent(), got.Len(), c.spent, c.len)
		}
		has(t, c.what, got, w)
	}
}

// TestP14_2Spent: it is spent with the first call that asks for too much, not sooner.
func TestP14_2Spent(t *testing.T) {
	for budget := range int64(40) {
		got, w := node.New(61, budget), &words{vars: 61, budget: budget}
		for v := 60; v > 20; v-- {
			n := makes(t, "one by one", got, w, v, 0, 1)
			if want := int64(60 - v); got.Spent() != (want >= budget) || want < budget && int64(n) != want+2 {
				t.Errorf("of %d: %d is spent %v", budget, n, got.Spent())
			}
		}
		has(t, "spent", got, w)
	}
}

// drawn is a number of a node, more often one that there is, now and then far from that.
func drawn(d *plain.Dice, w *words) int {
	switch d.Below(40) {
	case 0:
		return -1 - d.Below(3)
	case 1:
		return len(w.nodes) + 2 + d.Below(2)
	case 2:
		l := outside(len(w.nodes) + 2)
		return l[d.Below(len(l))]
	}
	return d.Below(len(w.nodes) + 2)
}

func TestP14_2Drawn(t *testing.T) {
	var d plain.Dice = 14
	for range 400 {
		w := &words{vars: d.Below(8), budget: int64(d.Below(60))}
		if d.Below(4) == 0 {
			w.vars, w.budget = 61, api.MaxBudget
		}
		got := node.New(w.vars, w.budget)
		for range 20 + d.Below(100) {
			makes(t, "drawn", got, w, d.Below(w.vars+2)-1, drawn(&d, w), drawn(&d, w))
		}
		has(t, "drawn", got, w)
	}
}

// TestP14_2Beyond: of places that there aren't nothing is made, and nothing changes.
func TestP14_2Beyond(t *testing.T) {
	got, w := node.New(3, 9), &words{vars: 3, budget: 9}
	for _, parts := range [][3]int{{2, 0, 1}, {1, 0, 2}, {2, 1, 0}, {1, 3, 1}} {
		makes(t, "some", got, w, parts[0], parts[1], parts[2])
	}
	for _, v := range append(outside(3), 0, 1, 2) {
		for _, n := range append(outside(len(w.nodes)+2), 0, 1, 2) {
			for _, other := range []int{0, 1, 2, n} {
				if v < 0 || v > 2 || n < 0 || n > 2 {
					makes(t, "beyond", got, w, v, n, other)
					makes(t, "beyond", got, w, v, other, n)
				}
			}
		}
	}
	has(t, "as it was", got, w)
}

// TestP14_2Bits: each of the most variables has its own bit, and what stands above them changes nothing.
func TestP14_2Bits(t *testing.T) {
	got := node.New(api.MaxBits, api.MaxBudget)
	all, none, odd := 1, 1, 0
	even := 1
	for v := api.MaxBits - 1; v >= 0; v-- {
		one, _ := got.Make(v, 0, 1)
		all, _ = got.Make(v, 0, all)
		none, _ = got.Make(v, none, 0)
		so, _ := got.Make(v, odd, even)
		other, _ := got.Make(v, even, odd)
		odd, even = so, other
		for bit := range 64 {
			if got.At(one, 1<<bit) != (bit == v) || got.At(one, math.MaxUint64^1<<bit) != (bit != v) {
				t.Errorf("the variable %d is told by the bit %d", v, bit)
			}
		}
	}
	const full = 1<<api.MaxBits - 1
	for bit := range 64 {
		inside := bit < api.MaxBits
		if got.At(all, full^1<<bit) == inside || got.At(none, 1<<bit) == inside || got.At(odd, 1<<bit) != inside || got.At(even, 1<<bit) == inside {
			t.Errorf("the bit %d of all variables", bit)
		}
	}
	if !got.At(all, full) || !got.At(all, math.MaxUint64) || !got.At(none, 0) || !got.At(none, math.MaxUint64^full) || got.At(odd, 0) || !got.At(odd, full) || got.At(odd, 3) {
		t.Error("all of them")
	}
}

// TestP14_2Many: many nodes, each once, in the order in which they were made.
func TestP14_2Many(t *testing.T) {
	const most = 1000
	got := node.New(api.MaxBits, api.MaxBudget)
	made := int64(0)
	for v := api.MaxBits - 1; v > api.MaxBits-40; v-- {
		below := min(int(got.Len())+2, most)
		for again := range 2 {
			n := int64(2) + made
			for lo := max(0, below-60); lo < below; lo++ {
				for hi := max(0, below-60); hi < below; hi++ {
					if lo == hi {
						continue
					}
					if at, why := got.Make(v, lo, hi); int64(at) != n || why != api.OK {
						t.Fatalf("Make(%d, %d, %d), time %d, is %d, %d, not %d", v, lo, hi, again, at, why, n)
					}
					if parts, ok := got.Get(int(n)); !ok || parts != (api.Node{Var: v, Lo: lo, Hi: hi}) {
						t.Fatalf("%d is %v", n, parts)
					}
					n++
				}
			}
			if got.Len() != n-2 {
				t.Fatalf("%d nodes, not %d", got.Len(), n-2)
			}
			if again == 1 {
				made = n - 2
			}
		}
	}
	if made < 50000 {
		t.Errorf("%d are few", made)
	}
}

// TestP14_3: of 4 variables there is one node for each of the functions that they have, whose truths are its own.
func TestP14_3(t *testing.T) {
	const count = 4
	got := node.New(count, 1<<16-2)
	by := map[uint64]int{0: 0, 1<<16 - 1: 1} // by the truths at all bits, those at 0 lowest
	l := []int{0, 1}
	for v := count - 1; v >= 0; v-- {
		below := slices.Clone(l)
		for _, lo := range below {
			for _, hi := range below {
				n, why := got.Make(v, lo, hi)
				if why != api.OK {
					t.Fatalf("Make(%d, %d, %d) is %d", v, lo, hi, why)
				}
				var truths uint64
				for bits := range uint64(1) << count {
					if got.At(n, bits) {
						truths |= 1 << bits
					}
				}
				if before, ok := by[truths]; ok && before != n {
					t.Fatalf("%d and %d are true at the same bits", before, n)
				} else if !ok {
					by[truths], l = n, append(l, n)
				}
			}
		}
	}
	if len(by) != 1<<16 || got.Len() != 1<<16-2 || got.Spent() {
		t.Errorf("%d functions by %d nodes", len(by), got.Len())
	}
	parts := map[api.Node]int{}
	for n := 2; n < 1<<16; n++ {
		p, ok := got.Get(n)
		if before, twice := parts[p]; !ok || twice {
			t.Fatalf("%d and %d have the parts %v", before, n, p)
		}
		if parts[p] = n; p.Lo == p.Hi || got.Var(p.Lo) <= p.Var || got.Var(p.Hi) <= p.Var {
			t.Errorf("%d has the parts %v", n, p)
		}
	}
}
