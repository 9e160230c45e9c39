package policy_test

import (
	"math"
	"slices"
	"strconv"
	"strings"
	"testing"

	"crupper/api"
	"crupper/names"
	"crupper/policy"
	"crupper/query"
	"crupper/scan"
	"crupper/syn"
)

func role(owner, name string) api.Role { return api.Role{Owner: owner, Name: name} }

func member(head api.Role, who string) api.Stmt {
	return api.Stmt{Kind: api.Member, Head: head, Who: who}
}

func incl(head, a api.Role) api.Stmt { return api.Stmt{Kind: api.Incl, Head: head, A: a} }

func link(head, a api.Role, via string) api.Stmt {
	return api.Stmt{Kind: api.Link, Head: head, A: a, Via: via}
}

func both(head, a, b api.Role) api.Stmt { return api.Stmt{Kind: api.Both, Head: head, A: a, B: b} }

func about(kind int, a api.Role, who ...string) api.Query {
	return api.Query{Kind: kind, A: a, Who: who}
}

func between(kind int, a, b api.Role) api.Query { return api.Query{Kind: kind, A: a, B: b} }

func states(l ...api.Stmt) api.Policy { return api.Policy{Stmts: l} }

func grows(l ...api.Role) api.Policy { return api.Policy{Grow: l} }

func shrinks(l ...api.Role) api.Policy { return api.Policy{Shrink: l} }

func asks(l ...api.Query) api.Policy { return api.Policy{Asks: l} }

var (
	ar   = role("A", "r")
	as   = role("A", "s")
	bs   = role("B", "s")
	ct   = role("C", "t")
	long = role("ABCDEFGH", "abcdefgh")
)

var (
	wrongKinds = []int{0, -1, 7, 8, 257, 258, math.MinInt, math.MaxInt}
	noRoles    = []api.Role{{}, role("A", ""), role("", "r"), role("a", "r"), role("A", "R"), role("ABCDEFGHI", "r"), role("A", "abcdefghi"), role("A ", "r")}
)

// prins and links are n principals, and n names of roles, of this many bytes each, rising: up to 26.
func prins(n, size int) []string { return texts('A', n, size) }

func links(n, size int) []string { return texts('a', n, size) }

func texts(from byte, n, size int) []string {
	var l []string
	for i := range n {
		l = append(l, string(rune(from)+rune(i))+strings.Repeat("z", size-1))
	}
	return l
}

// grid is n roles of at most 16 principals with at most 12 names, rising.
func grid(n int) []api.Role {
	var l []api.Role
	for _, owner := range prins(16, 1) {
		for _, name := range links(12, 1) {
			l = append(l, role(owner, name))
		}
	}
	return l[:n]
}

// crowd is n statements about roles of the grid, by their order.
func crowd(n int) []api.Stmt {
	var l []api.Stmt
	for _, r := range grid(n) {
		l = append(l, member(r, "A"))
	}
	return l
}

// heap is n times this query.
func heap(n int, q api.Query) []api.Query { return slices.Repeat([]api.Query{q}, n) }

// same holds policies against each other without the package's own Same, nor layer 4's.
func same(a, b api.Policy) bool {
	one := func(a, b api.Query) bool {
		return a.Kind == b.Kind && a.A == b.A && a.B == b.B && slices.Equal(a.Who, b.Who)
	}
	return slices.Equal(a.Stmts, b.Stmts) && slices.Equal(a.Grow, b.Grow) && slices.Equal(a.Shrink, b.Shrink) && slices.EqualFunc(a.Asks, b.Asks, one)
}

func copyOf(p api.Policy) api.Policy {
	c := api.Policy{Stmts: slices.Clone(p.Stmts), Grow: slices.Clone(p.Grow), Shrink: slices.Clone(p.Shrink), Asks: slices.Clone(p.Asks)}
	for i := range c.Asks {
		c.Asks[i].Who = slices.Clone(c.Asks[i].Who)
	}
	return c
}

func isZero(p api.Policy) bool { return same(p, api.Policy{}) }

// dice draws numbers, the same ones each time.
type dice uint64

func (d *dice) below(n int) int {
	*d = *d*6364136223846793005 + 1442695040888963407
	return int(uint64(*d)>>33) % n
}

func (d *dice) role(l []string, m []string) api.Role {
	return role(l[d.below(len(l))], m[d.below(len(m))])
}

// draw is a policy whose statements and queries are right, in any order, more than once; of few principals and names.
func (d *dice) draw(most int) api.Policy {
	l, m := []string{"B", "A", "Bob", "BOb", "B0"}, []string{"s", "r", "grow", "sa"}
	var p api.Policy
	for range d.below(most) {
		head, a, b := d.role(l, m), d.role(l, m), d.role(l, m)
		p.Stmts = append(p.Stmts, []api.Stmt{member(head, l[d.below(len(l))]), incl(head, a), link(head, a, m[d.below(len(m))]), both(head, a, b)}[d.below(4)])
	}
	for range d.below(most) {
		p.Grow, p.Shrink = append(p.Grow, d.role(l, m)), append(p.Shrink, d.role(l, m))
	}
	for range d.below(5) {
		a, b, who := d.role(l, m), d.role(l, m), names.New(l[:d.below(3)+1]...).All()
		p.Asks = append(p.Asks, []api.Query{about(api.AskHas, a, who...), about(api.AskMay, a, who...), about(api.AskWithin, a, who...), about(api.AskEmpty, a), between(api.AskApart, a, b), between(api.AskIn, a, b)}[d.below(6)])
	}
	return p
}

// sound are policies that are right.
func sound() []api.Policy {
	l := []api.Policy{
		{},
		{Stmts: []api.Stmt{}, Grow: []api.Role{}, Shrink: []api.Role{}, Asks: []api.Query{}},
		states(member(ar, "B")),
		states(member(ar, "A"), member(ar, "B"), incl(ar, bs), link(ar, as, "t"), link(ar, bs, "s"), both(ar, bs, ct), member(bs, "A")),
		states(member(long, "ABCDEFGH"), both(long, long, long)),
		grows(ar, as, bs), shrinks(ar, as, bs), grows(long), shrinks(long),
		asks(about(api.AskHas, ar, "B"), about(api.AskEmpty, ar), about(api.AskHas, ar, "B"), between(api.AskIn, bs, ar), about(api.AskWithin, ar)),
		{Stmts: []api.Stmt{member(ar, "B"), incl(bs, ar)}, Grow: []api.Role{ar, ct}, Shrink: []api.Role{ar, bs}, Asks: []api.Query{between(api.AskIn, ct, as), about(api.AskMay, role("D", "u"), "E", "F")}},
		states(crowd(80)...), grows(grid(40)...), shrinks(grid(40)...), asks(heap(16, about(api.AskEmpty, ar))...),
		{Stmts: crowd(80), Grow: grid(40), Shrink: grid(40), Asks: heap(16, about(api.AskWithin, role("P", "l"), prins(12, 1)...))},
		asks(about(api.AskWithin, ar, prins(12, 1)...), about(api.AskWithin, ar, prins(16, 1)[4:]...)),
		grows(role("A", "z"), role("A0", "b"), role("AA", "a"), role("Aa", "a"), role("B", "a")),
	}
	var d dice = 3
	for range 40 {
		l = append(l, policy.Normal(d.draw(9)))
	}
	return l
}

// unsound are policies that aren't right.
func unsound() []api.Policy {
	l := []api.Policy{
		states(member(ar, "B"), member(ar, "A")), states(member(ar, "B"), member(ar, "B")), states(incl(ar, bs), member(ar, "B")), states(member(bs, "B"), member(ar, "B")),
		states(member(ar, "A"), member(ar, "B"), member(ar, "B")), states(member(ar, "A"), member(ar, "C"), member(ar, "B")), states(link(ar, bs, "t"), link(ar, bs, "s")),
		states(both(ar, ct, bs)), states(api.Stmt{}), states(api.Stmt{Kind: api.Member, Head: ar, Who: "B", Via: "s"}), states(member(ar, "b")), states(member(ar, "A"), member(ar, "b")),
		grows(ar, ar), grows(as, ar), grows(bs, ar), grows(ar, bs, as), grows(ar, as, as), grows(ar, bs, ar), shrinks(ar, ar), shrinks(as, ar), shrinks(bs, ar), shrinks(ar, bs, as), shrinks(ar, as, as), shrinks(ar, bs, ar),
		grows(role("AA", "a"), role("A", "z")), shrinks(role("Aa", "a"), role("AA", "z")),
		asks(api.Query{}), asks(about(api.AskHas, ar)), asks(about(api.AskHas, ar, "C", "B")), asks(about(api.AskEmpty, ar), about(api.AskEmpty, ar, "B")), asks(between(api.AskIn, ar, api.Role{})), asks(about(api.AskMay, ar, prins(13, 1)...)), asks(between(api.AskEmpty, ar, bs)),
		asks(about(api.AskHas, ar, "b"), about(api.AskEmpty, ar)),
	}
	for _, r := range noRoles {
		l = append(l, states(member(r, "B")), states(incl(ar, r)), grows(r), shrinks(r), asks(about(api.AskEmpty, r)), asks(between(api.AskApart, ar, r)))
	}
	for _, kind := range append(wrongKinds, 5, 6) {
		l = append(l, states(api.Stmt{Kind: kind, Head: ar}))
	}
	for _, kind := range wrongKinds {
		l = append(l, asks(api.Query{Kind: kind, A: ar}))
	}
	return append(l, unfit()...)
}

// unfit are policies that have too much of something, but are right else.
func unfit() []api.Policy {
	var l []api.Policy
	for _, owner := range prins(17, 1) {
		l = append(l, grows(role(owner, "r")))
	}
	owners, named := api.Policy{}, api.Policy{}
	for _, p := range l {
		owners.Grow = append(owners.Grow, p.Grow...)
	}
	for _, name := range links(13, 1) {
		named.Shrink = append(named.Shrink, role("A", name))
	}
	return []api.Policy{
		states(crowd(81)...), grows(grid(41)...), shrinks(grid(41)...), asks(heap(17, about(api.AskEmpty, ar))...),
		owners, named,
		asks(about(api.AskHas, ar, prins(12, 1)...), about(api.AskHas, ar, prins(17, 1)[5:]...)),
		states(crowd(180)...),
	}
}

// parts are policies, with what each of them names.
var parts = []struct {
	p       api.Policy
	prins   string
	theirs  string // the names
	because string
}{
	{api.Policy{}, "", "", "nothing"},
	{states(member(ar, "B")), "A B", "r", "Head, and Who"},
	{states(incl(ar, bs)), "A B", "r s", "Head, and A of an Incl"},
	{states(link(ar, bs, "t")), "A B", "r s t", "Head, A and Via of a Link"},
	{states(both(ar, bs, ct)), "A B C", "r s t", "Head, A and B of a Both"},
	{states(api.Stmt{Kind: api.Member, Head: ar, Who: "B", A: bs, B: ct, Via: "u"}), "A B", "r", "nothing else of a Member"},
	{states(api.Stmt{Kind: api.Incl, Head: ar, Who: "D", A: bs, B: ct, Via: "u"}), "A B", "r s", "nothing else of an Incl"},
	{states(api.Stmt{Kind: api.Link, Head: ar, Who: "D", A: bs, B: ct, Via: "u"}), "A B", "r s u", "nothing else of a Link"},
	{states(api.Stmt{Kind: api.Both, Head: ar, Who: "D", A: bs, B: ct, Via: "u"}), "A B C", "r s t", "nothing else of a Both"},
	{states(api.Stmt{Kind: 5, Head: ar, Who: "D", A: bs, B: ct, Via: "u"}), "A", "r", "the Head of no kind"},
	{states(api.Stmt{Head: ar, Who: "D", A: bs, B: ct, Via: "u"}), "A", "r", "the Head of no kind"},
	{grows(ar), "A", "r", "Grow"},
	{grows(ct, ar), "A C", "r t", "Grow"},
	{shrinks(bs), "B", "s", "Shrink"},
	{shrinks(ct, ar), "A C", "r t", "Shrink"},
	{asks(about(api.AskHas, ar, "C", "D")), "A C D", "r", "A, and Who"},
	{asks(about(api.AskMay, ar, "C", "D")), "A C D", "r", "A, and Who"},
	{asks(about(api.AskWithin, ar, "C", "D")), "A C D", "r", "A, and Who"},
	{asks(about(api.AskEmpty, ar)), "A", "r", "A"},
	{asks(between(api.AskApart, ar, bs)), "A B", "r s", "A, and B"},
	{asks(between(api.AskIn, ct, bs)), "B C", "s t", "A, and B"},
	{asks(between(api.AskHas, ar, bs)), "A", "r", "no B of others"},
	{asks(between(api.AskEmpty, ar, bs)), "A", "r", "no B of others"},
	{asks(api.Query{Kind: api.AskIn, A: ar, B: bs, Who: []string{"E"}}), "A B E", "r s", "all Who"},
	{asks(api.Query{Kind: 9, A: ar, B: bs, Who: []string{"E"}}), "A E", "r", "all Who"},
	{states(member(ar, "C"), member(ar, "B"), member(as, "C"), link(bs, ar, "s")), "A B C", "r s", "each once"},
	{api.Policy{Stmts: []api.Stmt{member(role("Z", "z"), "Y")}, Grow: []api.Role{role("X", "x")}, Shrink: []api.Role{role("W", "w")}, Asks: []api.Query{about(api.AskHas, role("V", "v"), "U")}}, "U V W X Y Z", "v w x z", "all"},
	{api.Policy{Stmts: []api.Stmt{member(ar, "B")}, Grow: []api.Role{ar}, Shrink: []api.Role{role("B", "r")}, Asks: []api.Query{about(api.AskHas, ar, "A", "B")}}, "A B", "r", "each once"},
	{grows(role("Aa", "ra"), role("A", "r"), role("AA", "rA"), role("A1", "r1"), role("B", "r")), "A A1 AA Aa B", "r r1 rA ra", "by their bytes"},
	{states(member(ar, "X2"), member(ar, "X10"), member(ar, "X1")), "A X1 X10 X2", "r", "by their bytes"},
	{states(member(role("a", "R"), "b")), "a b", "R", "what is none, too"},
}

func TestP5_1Prins(t *testing.T) {
	for _, c := range parts {
		if got := strings.Join(policy.Prins(c.p), " "); got != c.prins {
			t.Errorf("%v: %q, not %q: %s", c.p, got, c.prins, c.because)
		}
	}
	if got := policy.Prins(grows(ar, api.Role{})); !slices.Equal(got, []string{"", "A"}) {
		t.Errorf("%q", got)
	}
}

func TestP5_1Names(t *testing.T) {
	for _, c := range parts {
		if got := strings.Join(policy.Names(c.p), " "); got != c.theirs {
			t.Errorf("%v: %q, not %q: %s", c.p, got, c.theirs, c.because)
		}
	}
	if got := policy.Names(shrinks(api.Role{}, ar)); !slices.Equal(got, []string{"", "r"}) {
		t.Errorf("%q", got)
	}
}

// TestP5_1Together: what a policy names is what its parts name.
func TestP5_1Together(t *testing.T) {
	for _, c := range parts {
		for _, d := range parts {
			p := api.Policy{Stmts: slices.Concat(c.p.Stmts, d.p.Stmts), Grow: slices.Concat(c.p.Grow, d.p.Grow), Shrink: slices.Concat(c.p.Shrink, d.p.Shrink), Asks: slices.Concat(c.p.Asks, d.p.Asks)}
			if got, want := policy.Prins(p), names.New(strings.Fields(c.prins+" "+d.prins)...).All(); !slices.Equal(got, want) {
				t.Errorf("%v: %q, not %q", p, got, want)
			}
			if got, want := policy.Names(p), names.New(strings.Fields(c.theirs+" "+d.theirs)...).All(); !slices.Equal(got, want) {
				t.Errorf("%v: %q, not %q", p, got, want)
			}
		}
	}
}

func TestP5_1SortRoles(t *testing.T) {
	z, a0, aA, aa := role("A", "z"), role("A0", "b"), role("AA", "a"), role("Aa", "a")
	for _, c := range []struct{ l, want []api.Role }{
		{nil, nil},
		{[]api.Role{}, nil},
		{[]api.Role{ar}, []api.Role{ar}},
		{[]api.Role{ar, ar}, []api.Role{ar}},
		{[]api.Role{bs, ar}, []api.Role{ar, bs}},
		{[]api.Role{as, ar}, []api.Role{ar, as}},
		{[]api.Role{bs, ar, bs, as, ar, bs}, []api.Role{ar, as, bs}},
		{[]api.Role{aa, aA, a0, z}, []api.Role{z, a0, aA, aa}},
		{[]api.Role{role("B", "a"), role("A", "b")}, []api.Role{role("A", "b"), role("B", "a")}},
		{[]api.Role{ar, {}, role("b", ""), role("", "b"), {}}, []api.Role{{}, role("", "b"), ar, role("b", "")}},
	} {
		if got := policy.SortRoles(c.l...); !slices.Equal(got, c.want) {
			t.Errorf("%v: %v, not %v", c.l, got, c.want)
		}
	}
	var d dice = 1
	for range 200 {
		var l []api.Role
		for range d.below(40) {
			l = append(l, d.role(prins(6, 1), links(5, 1)))
		}
		got := policy.SortRoles(l...)
		for i, r := range got {
			if i > 0 && !syn.Less(got[i-1], r) || !slices.Contains(l, r) {
				t.Errorf("%v: %v", l, got)
			}
		}
		for _, r := range l {
			if !slices.Contains(got, r) {
				t.Errorf("%v: %v hasn't %v", l, got, r)
			}
		}
	}
}

func TestP5_1Has(t *testing.T) {
	l := []api.Role{bs, ar, ar, long}
	for i, r := range l {
		if !policy.Has(l, r) || policy.Has(l[:i], r) != (i == 2) || !policy.Has(l[i:], r) {
			t.Errorf("%v", r)
		}
	}
	for _, r := range []api.Role{as, role("B", "r"), role("A", ""), role("", "r"), role("r", "A"), {}, role("a", "r"), role("ABCDEFGH", "abcdefg")} {
		if policy.Has(l, r) || policy.Has(nil, r) || !policy.Has([]api.Role{r}, r) {
			t.Errorf("%v", r)
		}
	}
}

func TestP5_2Fits(t *testing.T) {
	for _, p := range sound() {
		if !policy.Fits(p) {
			t.Errorf("doesn't fit: %v", p)
		}
	}
	for _, p := range unfit() {
		if policy.Fits(p) {
			t.Errorf("fits: %v", p)
		}
	}
	// rows are counted as they stand, right or not
	for _, c := range []struct {
		p    api.Policy
		want bool
	}{
		{states(slices.Repeat(crowd(1), 80)...), true}, {states(slices.Repeat(crowd(1), 81)...), false},
		{states(make([]api.Stmt, 80)...), true}, {states(make([]api.Stmt, 81)...), false},
		{grows(slices.Repeat([]api.Role{ar}, 40)...), true}, {grows(slices.Repeat([]api.Role{ar}, 41)...), false},
		{shrinks(make([]api.Role, 40)...), true}, {shrinks(make([]api.Role, 41)...), false},
		{asks(make([]api.Query, 16)...), true}, {asks(make([]api.Query, 17)...), false},
		{api.Policy{Grow: grid(40), Shrink: grid(40), Stmts: crowd(80), Asks: heap(16, about(api.AskEmpty, role("A", "l")))}, true},
		{api.Policy{Grow: grid(40), Shrink: grid(40), Stmts: crowd(80), Asks: heap(16, about(api.AskEmpty, role("A", "m")))}, false},
		{asks(about(api.AskMay, ar, prins(16, 1)...)), true}, {asks(about(api.AskMay, ar, prins(17, 1)...)), false},
		{asks(about(api.AskMay, role("Z", "r"), prins(15, 1)...)), true}, {asks(about(api.AskMay, role("Z", "r"), prins(16, 1)...)), false},
	} {
		if policy.Fits(c.p) != c.want {
			t.Errorf("%v: %v", c.p, !c.want)
		}
	}
}

// TestP5_2FitsNames: principals and names are counted each once, wherever they stand.
func TestP5_2FitsNames(t *testing.T) {
	full := api.Policy{}
	for _, owner := range prins(16, 1) {
		full.Stmts = append(full.Stmts, member(role("A", "r"), owner))
	}
	for _, name := range links(12, 1) {
		full.Stmts = append(full.Stmts, link(ar, ar, name))
	}
	full.Stmts = full.Stmts[:len(full.Stmts)-1] // r is one already
	if !policy.Fits(full) || len(policy.Prins(full)) != 16 || len(policy.Names(full)) != 12 {
		t.Fatalf("%v", full)
	}
	for _, more := range []api.Policy{
		states(member(ar, "Z")), states(incl(ar, role("Z", "r"))), states(member(role("Z", "r"), "A")), states(both(ar, ar, role("Z", "r"))), grows(role("Z", "r")), shrinks(role("Z", "r")), asks(about(api.AskEmpty, role("Z", "r"))), asks(between(api.AskIn, ar, role("Z", "r"))), asks(about(api.AskHas, ar, "Z")),
		states(link(ar, ar, "z")), states(incl(ar, role("A", "z"))), states(member(role("A", "z"), "A")), states(both(ar, ar, role("A", "z"))), grows(role("A", "z")), shrinks(role("A", "z")), asks(about(api.AskEmpty, role("A", "z"))), asks(between(api.AskIn, ar, role("A", "z"))),
	} {
		p := copyOf(full)
		p.Stmts, p.Grow, p.Shrink, p.Asks = append(p.Stmts, more.Stmts...), more.Grow, more.Shrink, more.Asks
		if policy.Fits(p) {
			t.Errorf("fits with %v", more)
		}
	}
}

func TestP5_2Right(t *testing.T) {
	for _, p := range sound() {
		if !policy.Right(p) {
			t.Errorf("isn't right: %v", p)
		}
	}
	for _, p := range unsound() {
		if policy.Right(p) {
			t.Errorf("is right: %v", p)
		}
		// nor is it with other things beside
		q := copyOf(p)
		q.Stmts, q.Shrink = append(q.Stmts, member(role("Zz", "r"), "A")), append(q.Shrink, role("Zz", "r"))
		if policy.Right(q) {
			t.Errorf("is right: %v", q)
		}
	}
}

func TestP5_2Normal(t *testing.T) {
	p := api.Policy{
		Stmts:  []api.Stmt{both(ar, ct, bs), member(bs, "C"), both(ar, bs, ct), incl(ar, bs), member(bs, "C"), member(ar, "B"), member(ar, "A"), {Kind: 7, Head: as, A: ct, B: bs}},
		Grow:   []api.Role{ct, ar, bs, ar},
		Shrink: []api.Role{bs, bs, as, ar},
		Asks:   []api.Query{about(api.AskHas, ar, "C", "B", "C"), about(api.AskEmpty, ar), about(api.AskEmpty, ar), {Kind: 9, A: bs, B: ar, Who: []string{"z"}}},
	}
	want := api.Policy{
		Stmts:  []api.Stmt{member(ar, "A"), member(ar, "B"), incl(ar, bs), both(ar, bs, ct), {Kind: 7, Head: as, A: ct, B: bs}, member(bs, "C")},
		Grow:   []api.Role{ar, bs, ct},
		Shrink: []api.Role{ar, as, bs},
		Asks:   p.Asks,
	}
	if got := policy.Normal(p); !same(got, want) {
		t.Errorf("%v, not %v", got, want)
	}
	for _, p := range sound() {
		if got := policy.Normal(p); !same(got, p) {
			t.Errorf("%v, not %v", got, p)
		}
	}
	var d dice = 2
	for range 200 {
		p := d.draw(30)
		got := policy.Normal(p)
		if !policy.Right(got) {
			t.Errorf("%v isn't right", got)
		}
		for _, s := range p.Stmts {
			if !slices.Contains(got.Stmts, syn.Normal(s)) {
				t.Errorf("%v hasn't %v", got, s)
			}
		}
		if again := policy.Normal(got); !same(again, got) {
			t.Errorf("%v, not %v", again, got)
		}
	}
}

func TestP5_2Same(t *testing.T) {
	all := slices.Concat(sound(), unsound())
	for i, a := range all {
		for j, b := range all {
			if got := policy.Same(a, b); got != same(a, b) || i == j && !got {
				t.Errorf("%v, %v: %v", a, b, got)
			}
		}
	}
	p := api.Policy{Stmts: []api.Stmt{member(ar, "B"), incl(bs, ar)}, Grow: []api.Role{ar, ct}, Shrink: []api.Role{as, bs}, Asks: []api.Query{about(api.AskHas, ar, "B", "C"), about(api.AskEmpty, ar)}}
	for i, change := range []func(q *api.Policy){
		func(q *api.Policy) { q.Stmts[1].A = ct },
		func(q *api.Policy) { slices.Reverse(q.Stmts) },
		func(q *api.Policy) { q.Stmts = q.Stmts[:1] },
		func(q *api.Policy) { q.Stmts = append(q.Stmts, q.Stmts[1]) },
		func(q *api.Policy) { q.Grow[0] = bs },
		func(q *api.Policy) { slices.Reverse(q.Grow) },
		func(q *api.Policy) { q.Grow = q.Grow[:1] },
		func(q *api.Policy) { q.Shrink[1] = ct },
		func(q *api.Policy) { slices.Reverse(q.Shrink) },
		func(q *api.Policy) { q.Shrink = append(q.Shrink, bs) },
		func(q *api.Policy) { q.Grow, q.Shrink = q.Shrink, q.Grow },
		func(q *api.Policy) { q.Asks[0].Who[1] = "D" },
		func(q *api.Policy) { slices.Reverse(q.Asks[0].Who) },
		func(q *api.Policy) { q.Asks[1].Kind = api.AskIn },
		func(q *api.Policy) { q.Asks[1].B = bs },
		func(q *api.Policy) { slices.Reverse(q.Asks) },
		func(q *api.Policy) { q.Asks = nil },
	} {
		q := copyOf(p)
		if !policy.Same(p, q) {
			t.Error("what is the same isn't")
		}
		change(&q)
		if policy.Same(p, q) || policy.Same(q, p) {
			t.Errorf("%d: %v, %v are the same", i, p, q)
		}
	}
}

// written is a policy of all kinds of lines, and its text.
func written() (api.Policy, string) {
	l := []string{
		"A.r <- B", "A.r <- B.s", "A.r <- B.s.t", "A.r <- B.s & C.t", "B.s <- A",
		"grow A.r", "grow C.t",
		"shrink A.r", "shrink B.s",
		"can A.r be empty", "always A.r has B C", "can A.r have D", "always A.r within", "always B.s apart A.r", "always A.r in B.s", "can A.r be empty",
	}
	return api.Policy{
		Stmts:  []api.Stmt{member(ar, "B"), incl(ar, bs), link(ar, bs, "t"), both(ar, bs, ct), member(bs, "A")},
		Grow:   []api.Role{ar, ct},
		Shrink: []api.Role{ar, bs},
		Asks:   []api.Query{about(api.AskEmpty, ar), about(api.AskHas, ar, "B", "C"), about(api.AskMay, ar, "D"), about(api.AskWithin, ar), between(api.AskApart, bs, ar), between(api.AskIn, ar, bs), about(api.AskEmpty, ar)},
	}, strings.Join(l, "\n") + "\n"
}

func TestP5_3Print(t *testing.T) {
	p, text := written()
	if got := policy.Print(p); got != text {
		t.Errorf("%q, not %q", got, text)
	}
	for _, c := range []struct {
		p    api.Policy
		want string
	}{
		{api.Policy{}, ""},
		{states(member(ar, "B")), "A.r <- B\n"},
		{grows(ar, bs), "grow A.r\ngrow B.s\n"},
		{shrinks(ar, bs), "shrink A.r\nshrink B.s\n"},
		{asks(about(api.AskEmpty, ar)), "can A.r be empty\n"},
		{api.Policy{Grow: []api.Role{ct}, Shrink: []api.Role{ar}}, "grow C.t\nshrink A.r\n"},
	} {
		if got := policy.Print(c.p); got != c.want {
			t.Errorf("%v: %q, not %q", c.p, got, c.want)
		}
	}
	for _, p := range unsound() {
		if got := policy.Print(p); got != "" {
			t.Errorf("%v isn't right, and has the text %q", p, got)
		}
	}
}

// parsed holds what a policy's text comes to against what it is to be.
func parsed(t *testing.T, text string, want api.Policy) {
	t.Helper()
	p, fault := policy.Parse(text)
	if !same(p, want) || fault != (api.Fault{}) {
		t.Errorf("%q: %v, %v; not %v", text, p, fault, want)
	}
}

// faulty holds what a text that is no policy's comes to against what it is to be.
func faulty(t *testing.T, text string, line, col int, why api.Errno) {
	t.Helper()
	want := api.Fault{Why: why, Line: line, Col: col}
	if p, fault := policy.Parse(text); !isZero(p) || fault != want {
		t.Errorf("%q: %v, %v; not %v", text, p, fault, want)
	}
}

func TestP5_4Parse(t *testing.T) {
	parsed(t, "grow A.r\nA.r <- B\nA.r <- B\n", api.Policy{Stmts: []api.Stmt{member(ar, "B")}, Grow: []api.Role{ar}}) // the chapter's example
	p, text := written()
	parsed(t, text, p)
	parsed(t, strings.TrimSuffix(text, "\n"), p)
	parsed(t, "\n\n  \n# x ?\n"+strings.ReplaceAll(text, "\n", "   # ?\n\n")+"#", p)
	parsed(t, strings.NewReplacer(".", " . ", " ", "  ").Replace(text), p)
	for _, empty := range []string{"", "\n", "\n\n\n", " ", "#", "  # A.r <- B", "# x\n\n   \n#\n"} {
		parsed(t, empty, api.Policy{})
	}
	parsed(t, "A.r<-B", states(member(ar, "B")))
	parsed(t, "A.r <- C.t & B.s\nA.r <- B.s & C.t", states(both(ar, bs, ct)))
	parsed(t, "B.s <- A\nA.r <- B.s\nA.r <- B\nA.r <- A", states(member(ar, "A"), member(ar, "B"), incl(ar, bs), member(bs, "A")))
	parsed(t, "grow B.s\ngrow A.r\nshrink A.s\ngrow B.s\nshrink A.r", api.Policy{Grow: []api.Role{ar, bs}, Shrink: []api.Role{ar, as}})
	parsed(t, "always A.r within C B\ncan A.r be empty\nalways A.r within B C", asks(about(api.AskWithin, ar, "B", "C"), about(api.AskEmpty, ar), about(api.AskWithin, ar, "B", "C")))
	parsed(t, "  grow  A . r  # A.s", grows(ar))
	parsed(t, "shrink ABCDEFGH.abcdefgh", shrinks(long))
	parsed(t, "grow A.grow\nshrink A.shrink\nA.grow <- A.shrink.grow", api.Policy{Stmts: []api.Stmt{link(role("A", "grow"), role("A", "shrink"), "grow")}, Grow: []api.Role{role("A", "grow")}, Shrink: []api.Role{role("A", "shrink")}})
	parsed(t, "grow A.r"+strings.Repeat(" ", api.MaxLine-8), grows(ar))
	parsed(t, "Grow.r <- Shrink", states(member(role("Grow", "r"), "Shrink")))
}

// TestP5_4Lines: the error of the first line that is wrong, and where.
func TestP5_4Lines(t *testing.T) {
	for _, c := range []struct {
		line string
		col  int
		why  api.Errno
	}{
		{"?", 1, api.ErrByte}, {"A.r <- B\r", 9, api.ErrByte}, {"\tA.r <- B", 1, api.ErrByte}, {"grow A.r ?", 10, api.ErrByte}, {"grow\tA.r", 5, api.ErrByte}, {"can A.r be empty.?", 18, api.ErrByte}, {"shrink ? A.r", 8, api.ErrByte},
		{"A.r <- ABCDEFGHI", 8, api.ErrLong}, {"grow ABCDEFGHI.r", 6, api.ErrLong}, {"shrink A.abcdefghi", 10, api.ErrLong}, {"always ABCDEFGHI.r has", 8, api.ErrLong}, {"growgrowgrow A.r", 1, api.ErrLong},
		{strings.Repeat(" ", api.MaxLine+1), api.MaxLine + 1, api.ErrLong}, {"#" + strings.Repeat("x", api.MaxLine), api.MaxLine + 1, api.ErrLong}, {"grow A.r" + strings.Repeat(" ", api.MaxLine-7), api.MaxLine + 1, api.ErrLong}, {"?" + strings.Repeat("x", api.MaxLine), api.MaxLine + 1, api.ErrLong},
		{"A.r <-", 7, api.ErrEnd}, {"A", 2, api.ErrEnd}, {"A.r <- B.s.", 12, api.ErrEnd}, {"A.r <- B.s & # x", 13, api.ErrEnd}, {"A.r B", 5, api.ErrForm}, {"A.r <- b", 8, api.ErrForm}, {"r", 1, api.ErrForm}, {"<- B", 1, api.ErrForm}, {"A.r <- B C", 10, api.ErrForm}, {"growing A.r", 1, api.ErrForm}, {"Grow A.r", 6, api.ErrForm}, {"& grow A.r", 1, api.ErrForm}, {"drop A.r <- B", 1, api.ErrForm}, {"A.r <- grow", 8, api.ErrForm},
		{"always", 7, api.ErrEnd}, {"can A.r be", 11, api.ErrEnd}, {"can A.r has B", 9, api.ErrForm}, {"always A.r <- B", 12, api.ErrForm}, {"can grow A.r", 5, api.ErrForm}, {"always A.r has A B C D E F G H I J K L M", 40, api.ErrMany},
	} {
		faulty(t, c.line, 1, c.col, c.why)
		faulty(t, c.line+"\n", 1, c.col, c.why)
		faulty(t, c.line+"\n?\n", 1, c.col, c.why)
		faulty(t, "\n"+c.line, 2, c.col, c.why)
		faulty(t, "A.r <- B\ngrow A.r\n# x\ncan A.r be empty\n"+c.line+"\nA.r <- B\nA.r <-", 5, c.col, c.why)
	}
	faulty(t, strings.Repeat("\n", 7998)+"?", 7999, 1, api.ErrByte)
	faulty(t, "A.r <-", 1, 7, api.ErrEnd) // example 10 of the whole
}

// TestP5_4Restrictions: of all rows of few tokens behind the words of restrictions.
func TestP5_4Restrictions(t *testing.T) {
	must := []string{"P", ".", "n"}
	seen := map[api.Errno]int{}
	var see func(word string, row []string)
	see = func(word string, row []string) {
		line, places := " "+word, []int(nil)
		for i, text := range row {
			line += strings.Repeat(" ", i%2+1)
			places = append(places, len(line)+1)
			line += text
		}
		places = append(places, len(line)+1)
		n := 0
		for n < len(row) && n < len(must) && (row[n] == must[n] || must[n] == "n" && row[n] == "grow") {
			n++
		}
		switch {
		case n < len(row):
			faulty(t, line+" # x", 1, places[n], api.ErrForm)
			seen[api.ErrForm]++
		case n < len(must):
			faulty(t, line+" # x", 1, places[n], api.ErrEnd)
			seen[api.ErrEnd]++
		default:
			want := api.Policy{}
			if r := role("P", row[2]); word == "grow" {
				want.Grow = []api.Role{r}
			} else {
				want.Shrink = []api.Role{r}
			}
			parsed(t, line+" # x", want)
			seen[api.OK]++
		}
		if len(row) < 5 {
			for _, text := range []string{"P", "n", "grow", ".", "<-", "&"} {
				see(word, append(slices.Clone(row), text))
			}
		}
	}
	see("grow", nil)
	see("shrink", nil)
	if seen[api.OK] != 4 || seen[api.ErrEnd] != 6 || seen[api.ErrForm] == 0 {
		t.Error(seen)
	}
	// no blanks stand between
	faulty(t, "grow.r", 1, 5, api.ErrForm)
	faulty(t, "shrink<-B", 1, 7, api.ErrForm)
	faulty(t, "grow&", 1, 5, api.ErrForm)
	faulty(t, "grow#", 1, 5, api.ErrEnd)
	faulty(t, "shrink    ", 1, 7, api.ErrEnd)
	faulty(t, "grow A.r.s", 1, 9, api.ErrForm)
	faulty(t, "grow A.r B.s", 1, 10, api.ErrForm)
	faulty(t, "grow Alice.roles <- Bob", 1, 18, api.ErrForm)
	faulty(t, "shrink Alice  ", 1, 13, api.ErrEnd)
}

func TestP5_4TextLong(t *testing.T) {
	fill := func(n int) string { return strings.Repeat("\n", n) }
	parsed(t, fill(api.MaxText), api.Policy{})
	parsed(t, "A.r <- B"+fill(api.MaxText-8), states(member(ar, "B")))
	for _, text := range []string{fill(api.MaxText + 1), "A.r <- B" + fill(api.MaxText-7), "?" + fill(api.MaxText), strings.Repeat("x", api.MaxText+1), strings.Repeat("A.r <- B\n", 10000)} {
		faulty(t, text, 0, 0, api.ErrLong)
	}
	faulty(t, strings.Repeat("x", api.MaxText), 1, api.MaxLine+1, api.ErrLong)
}

// some is n lines, each made of its number.
func some(n int, line func(i int) string) string {
	var b strings.Builder
	for i := range n {
		b.WriteString(line(i) + "\n")
	}
	return b.String()
}

// TestP5_4Many: the line with which it doesn't fit any more.
func TestP5_4Many(t *testing.T) {
	roles := grid(192)
	stmt := func(i int) string { return syn.PrintRole(roles[i]) + " <- A" }
	growing := func(i int) string { return "grow " + syn.PrintRole(roles[i]) }
	shrinking := func(i int) string { return "shrink " + syn.PrintRole(roles[i]) }
	asking := func(i int) string { return "can " + syn.PrintRole(roles[i%5]) + " be empty" }
	for _, c := range []struct {
		most int
		line func(i int) string
	}{{api.MaxStmts, stmt}, {api.MaxRoles, growing}, {api.MaxRoles, shrinking}, {api.MaxAsks, asking}} {
		full := some(c.most, c.line)
		if p, fault := policy.Parse(full); fault != (api.Fault{}) || len(p.Stmts)+len(p.Grow)+len(p.Shrink)+len(p.Asks) != c.most {
			t.Errorf("%q: %v, %v", full, p, fault)
		}
		over := "   " + c.line(c.most)
		faulty(t, full+over, c.most+1, 1, api.ErrMany)
		faulty(t, full+"\n# x\n"+over+"\n?", c.most+3, 1, api.ErrMany)
		faulty(t, over+"\n"+full, c.most+1, 1, api.ErrMany)
		// its own error comes ahead
		faulty(t, full+over+" ?", c.most+1, len(over)+2, api.ErrByte)
		faulty(t, full+over+" &", c.most+1, len(over)+2, api.ErrForm)
		faulty(t, full+"A.r <-", c.most+1, 7, api.ErrEnd)
	}
	// doubled statements and roles count once, queries as they stand
	full := some(api.MaxStmts, stmt) + some(api.MaxRoles, growing) + some(api.MaxRoles, shrinking)
	p, fault := policy.Parse(full + full)
	if fault != (api.Fault{}) || len(p.Stmts) != api.MaxStmts || len(p.Grow) != api.MaxRoles || len(p.Shrink) != api.MaxRoles {
		t.Errorf("%v, %v", p, fault)
	}
	parsed(t, strings.Repeat("A.r <- B.s & C.t\nA.r <- C.t & B.s\n", 41), states(both(ar, bs, ct)))
	parsed(t, strings.Repeat("grow A.r\nshrink A.r\n", 41), api.Policy{Grow: []api.Role{ar}, Shrink: []api.Role{ar}})
	parsed(t, strings.Repeat("can A.r be empty\n", 16), asks(heap(16, about(api.AskEmpty, ar))...))
	faulty(t, strings.Repeat("can A.r be empty\n", 17), 17, 1, api.ErrMany)
}

// TestP5_4ManyNames: principals and names are counted each once, over all lines.
func TestP5_4ManyNames(t *testing.T) {
	owners := some(15, func(i int) string { return "A.r <- " + prins(16, 1)[i] })
	linked := some(11, func(i int) string { return "A.r <- A.r." + append(links(10, 1), "r")[i] })
	for _, last := range []string{"A.r <- P", "P.r <- A", "A.r <- P.r", "A.r <- A.r & P.r", "grow P.r", "shrink P.r", "can P.r be empty", "always A.r in P.r", "always A.r within P", "can A.r have B P"} {
		full := owners + last + "\n"
		if p, fault := policy.Parse(full); fault != (api.Fault{}) || len(policy.Prins(p)) != 16 {
			t.Errorf("%q: %v, %v", full, p, fault)
		}
		faulty(t, full+strings.ReplaceAll(last, "P", "Q"), 17, 1, api.ErrMany)
		faulty(t, full+"A.r <- Q", 17, 1, api.ErrMany)
		faulty(t, "grow Q.r\n"+full, 17, 1, api.ErrMany)
		faulty(t, full+"A.r <- Q <-", 17, 10, api.ErrForm)
	}
	for _, last := range []string{"A.t <- A", "A.r <- A.t", "A.r <- A.r.t", "A.r <- A.r & A.t", "grow A.t", "shrink A.t", "can A.t be empty", "always A.r apart A.t"} {
		full := linked + last + "\n"
		if p, fault := policy.Parse(full); fault != (api.Fault{}) || len(policy.Names(p)) != 12 {
			t.Errorf("%q: %v, %v", full, p, fault)
		}
		faulty(t, full+strings.ReplaceAll(last, ".t", ".u"), 13, 1, api.ErrMany)
		faulty(t, full+"A.r <- A.r.u", 13, 1, api.ErrMany)
		faulty(t, "shrink A.u\n"+full, 13, 1, api.ErrMany)
	}
	faulty(t, "can A.r have "+strings.Join(prins(12, 1), " ")+"\ncan A.r have "+strings.Join(prins(17, 1)[5:], " "), 2, 1, api.ErrMany)
}

// TestP5_4Any: any text is a policy, that is right, or a fault with its line and place.
func TestP5_4Any(t *testing.T) {
	var d dice = 4
	pieces := []string{"A", "B", ".", "r", "s", " <- ", "<-", " & ", "grow ", "shrink ", "can ", "always ", "A.r", "B.s", " has ", " have ", " be empty", " in ", "\n", "\n", " ", "#", "?", "\n", "\xff", "1"}
	good := 0
	for range 20000 {
		text := ""
		for range d.below(12) {
			text += pieces[d.below(len(pieces))]
		}
		p, fault := policy.Parse(text)
		lines := scan.Lines(text)
		switch {
		case fault == (api.Fault{}):
			good++
			parsed(t, policy.Print(p), p)
			if !policy.Right(p) {
				t.Errorf("%q: %v isn't right", text, p)
			}
		case !isZero(p) || fault.Line < 1 || fault.Line > len(lines) || fault.Col < 1 || fault.Col > len(lines[fault.Line-1])+1:
			t.Errorf("%q: %v, %v", text, p, fault)
		default:
			// what stands ahead of it is right, with it nothing is
			if _, ahead := policy.Parse(strings.Join(lines[:fault.Line-1], "\n")); ahead != (api.Fault{}) {
				t.Errorf("%q: %v, ahead of it %v", text, fault, ahead)
			}
			faulty(t, lines[fault.Line-1], 1, fault.Col, fault.Why)
		}
	}
	if good < 100 {
		t.Error("too few policies:", good)
	}
}

func TestP5_5Parsed(t *testing.T) {
	for _, p := range sound() {
		if text := policy.Print(p); len(text) <= api.MaxText {
			parsed(t, text, p)
		}
	}
	var d dice = 5
	for range 500 {
		p := policy.Normal(d.draw(30))
		parsed(t, policy.Print(p), p)
	}
}

// TestP5_5TooLong: a policy may be right, and its text too long.
func TestP5_5TooLong(t *testing.T) {
	var p api.Policy
	owners, theirs := prins(16, 8), links(12, 8)
	for i := range api.MaxStmts {
		a := role(owners[i%16], theirs[i/16])
		p.Stmts = append(p.Stmts, both(a, role(owners[0], theirs[0]), a))
	}
	for i := range api.MaxRoles {
		p.Grow = append(p.Grow, role(owners[i%16], theirs[i/16]))
	}
	p.Shrink = p.Grow
	p.Asks = heap(14, about(api.AskWithin, role(owners[0], theirs[0]), owners[:12]...))
	p = policy.Normal(p)
	for i := 0; i < 2; i++ {
		text := policy.Print(p)
		want := 80*(17+4+17+3+17+1) + 40*(5+17+1) + 40*(7+17+1) + len(p.Asks)*(7+17+7+12*9+1)
		if !policy.Right(p) || len(text) != want {
			t.Fatalf("%d bytes, not %d: %v", len(text), want, p)
		}
		if len(text) > api.MaxText {
			faulty(t, text, 0, 0, api.ErrLong)
		} else {
			parsed(t, text, p)
		}
		p.Asks = p.Asks[:5]
	}
}

// TestP5_6Lines: lines that are no queries may stand in any order, and more than once; comments, blanks and empty lines change nothing.
func TestP5_6Lines(t *testing.T) {
	var d dice = 6
	for round := range 300 {
		p := policy.Normal(d.draw(20))
		lines := scan.Lines(policy.Print(p))
		first := len(lines) - len(p.Asks)
		queries := slices.Clone(lines[first:])
		var l []string
		for _, line := range lines[:first] {
			for range d.below(3) + 1 {
				l = append(l, line)
			}
		}
		for i := range l {
			j := d.below(i + 1)
			l[i], l[j] = l[j], l[i]
		}
		for i, at := 0, 0; i < len(queries); i++ { // queries keep their order, anywhere
			at += d.below(len(l) - at + 1)
			l = slices.Insert(l, at, queries[i])
			at++
		}
		text := ""
		for _, line := range l {
			text += strings.Repeat(" ", d.below(3)) + line + []string{"", "  ", " # x", "#?", "\n", "\n  # grow A.r"}[d.below(6)] + "\n"
		}
		if len(text) > api.MaxText {
			t.Fatal("too long", round)
		}
		parsed(t, text, p)
	}
}

// TestP5_6Queries: queries stand in the order of their lines, as often as they come.
func TestP5_6Queries(t *testing.T) {
	a, b := "can A.r be empty\n", "always A.r has B\n"
	qa, qb := about(api.AskEmpty, ar), about(api.AskHas, ar, "B")
	parsed(t, a+b, asks(qa, qb))
	parsed(t, b+a, asks(qb, qa))
	parsed(t, b+a+b+b, asks(qb, qa, qb, qb))
}

// room is a policy each of whose rows has spare room, in which something stands.
func room() api.Policy {
	p := api.Policy{
		Stmts:  []api.Stmt{member(bs, "C"), both(ar, ct, bs), member(bs, "C"), member(ar, "Z")},
		Grow:   []api.Role{ct, ar, ct, bs},
		Shrink: []api.Role{bs, as, bs, ar},
		Asks:   []api.Query{about(api.AskHas, ar, "C", "B", "C", "Z"), about(api.AskEmpty, bs), about(api.AskEmpty, ct)},
	}
	p.Asks[0].Who = p.Asks[0].Who[:3]
	return api.Policy{Stmts: p.Stmts[:3], Grow: p.Grow[:3], Shrink: p.Shrink[:3], Asks: p.Asks[:2]}
}

// whole is the policy with its rows' spare room.
func whole(p api.Policy) api.Policy {
	w := api.Policy{Stmts: p.Stmts[:cap(p.Stmts)], Grow: p.Grow[:cap(p.Grow)], Shrink: p.Shrink[:cap(p.Shrink)], Asks: slices.Clone(p.Asks[:cap(p.Asks)])}
	for i, q := range w.Asks {
		w.Asks[i].Who = q.Who[:cap(q.Who)]
	}
	return w
}

// spoil changes all of an answer, and puts something behind it.
func spoil(p api.Policy) {
	for i := range p.Asks {
		clear(p.Asks[i].Who)
		_ = append(p.Asks[i].Who, "Y")
	}
	clear(p.Stmts)
	clear(p.Grow)
	clear(p.Shrink)
	clear(p.Asks)
	_ = append(p.Stmts, member(ct, "Y"))
	_ = append(p.Grow, as)
	_ = append(p.Shrink, as)
	_ = append(p.Asks, about(api.AskEmpty, as))
}

// TestApart: what is handed in stays, its spare room included, and isn't kept; answers are new memory.
func TestApart(t *testing.T) {
	p, before := room(), copyOf(whole(room()))
	for name, call := range map[string]func(){
		"Right":     func() { policy.Right(p) },
		"Fits":      func() { policy.Fits(p) },
		"Print":     func() { policy.Print(p) },
		"Same":      func() { policy.Same(p, p) },
		"Has":       func() { policy.Has(p.Grow, ar) },
		"Normal":    func() { spoil(policy.Normal(p)) },
		"Prins":     func() { l := policy.Prins(p); clear(l); _ = append(l, "Y") },
		"Names":     func() { l := policy.Names(p); clear(l); _ = append(l, "y") },
		"SortRoles": func() { spoil(grows(policy.SortRoles(p.Grow...)...)) },
	} {
		call()
		if !same(whole(p), before) {
			t.Fatalf("%s: what was handed in is changed: %v", name, whole(p))
		}
	}
	normal, sorted, own := policy.Normal(p), policy.SortRoles(p.Grow...), policy.Prins(p)
	spoil(whole(p))
	if !same(normal, policy.Normal(room())) || !slices.Equal(sorted, []api.Role{ar, ct}) || !slices.Equal(own, []string{"A", "B", "C"}) {
		t.Errorf("what was handed in is kept: %v, %v, %v", normal, sorted, own)
	}
	want, text := written()
	first, _ := policy.Parse(text)
	spoil(first)
	parsed(t, text, want)
}

// TestFaultPlaces: a fault's place is that of layer 3's, or layer 4's, of the line alone.
func TestFaultPlaces(t *testing.T) {
	for _, line := range []string{"A.r <- B.s.t.u", "A.r <- & B", "A <- B", "A.r <- B.s & C", "can", "always A.r hast B", "can A.r be full", "always A.r apart B"} {
		_, col, why := syn.Parse(line)
		if query.Is(line) {
			_, col, why = query.Parse(line)
		}
		for n := range 3 {
			faulty(t, strings.Repeat("# "+strconv.Itoa(n)+"\n", n)+line, n+1, col, why)
		}
	}
}
