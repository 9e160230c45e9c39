package state_test

import (
	"math"
	"slices"
	"testing"

	"crupper/api"
	"crupper/state"
	"crupper/syn"
)

func role(owner, name string) api.Role { return api.Role{Owner: owner, Name: name} }

func member(head api.Role, who string) api.Stmt {
	return api.Stmt{Kind: api.Member, Head: head, Who: who}
}

func incl(head, a api.Role) api.Stmt { return api.Stmt{Kind: api.Incl, Head: head, A: a} }

func link(head, a api.Role, via string) api.Stmt {
	return api.Stmt{Kind: api.Link, Head: head, A: a, Via: via}
}

func both(head, a, b api.Role) api.Stmt { return api.Stmt{Kind: api.Both, Head: head, A: a, B: b} }

var (
	ar = role("A", "r")
	as = role("A", "s")
	br = role("B", "r")
	bs = role("B", "s")
)

// rising are statements that are right, by Order: of each kind some, and about several roles.
func rising() []api.Stmt {
	return []api.Stmt{
		member(ar, "A"), member(ar, "B"), incl(ar, as), incl(ar, bs), link(ar, as, "r"), link(ar, as, "s"), link(ar, bs, "r"), both(ar, as, as), both(ar, as, bs), both(ar, bs, bs),
		member(as, "A"), incl(as, ar), link(as, as, "s"), both(as, ar, bs),
		member(br, "A"), member(br, "AA"), incl(br, ar), link(br, ar, "r"), both(br, br, br),
	}
}

// wrong are statements that aren't right, most of them but just.
func wrong() []api.Stmt {
	return []api.Stmt{
		{}, {Kind: api.Member}, {Kind: 5, Head: ar}, {Kind: -1, Head: ar, Who: "B"}, {Kind: math.MaxInt, Head: bs},
		member(ar, ""), member(ar, "b"), member(role("a", "r"), "B"), member(role("A", ""), "B"), member(ar, "ABCDEFGHI"),
		incl(ar, api.Role{}), incl(ar, role("B", "S")), link(ar, bs, ""), link(ar, bs, "R"), both(ar, bs, as), both(ar, as, api.Role{}),
		{Kind: api.Member, Head: ar, Who: "B", Via: "r"}, {Kind: api.Incl, Head: ar, A: bs, B: bs}, {Kind: api.Link, Head: ar, A: bs, Via: "r", Who: "B"},
	}
}

// dice draws numbers, the same ones each time.
type dice uint64

func (d *dice) below(n int) int {
	*d = *d*6364136223846793005 + 1442695040888963407
	return int(uint64(*d)>>33) % n
}

// stmts draws n of l, in any order, some more than once.
func (d *dice) stmts(n int, l []api.Stmt) []api.Stmt {
	var out []api.Stmt
	for range n {
		out = append(out, l[d.below(len(l))])
	}
	return out
}

func (d *dice) roles(n int) []api.Role {
	var out []api.Role
	for range n {
		out = append(out, []api.Role{ar, as, br, bs}[d.below(4)])
	}
	return out
}

// is: is s one of l?
func is(l []api.Stmt, s api.Stmt) bool {
	for _, x := range l {
		if x == s {
			return true
		}
	}
	return false
}

// such puts those of l that are so in order, each once.
func such(l []api.Stmt, so func(api.Stmt) bool) []api.Stmt {
	var out []api.Stmt
	for _, s := range l {
		if so(s) && !is(out, s) {
			at := 0
			for at < len(out) && syn.Order(out[at], s) < 0 {
				at++
			}
			out = slices.Insert(out, at, s)
		}
	}
	return out
}

// reaches says by the chapter's words whether p reaches c.
func reaches(p api.Policy, c []api.Stmt) bool {
	for _, s := range c {
		if !syn.Right(s) || !is(p.Stmts, s) && slices.Contains(p.Grow, s.Head) {
			return false
		}
	}
	for _, s := range p.Stmts {
		if !is(c, s) && slices.Contains(p.Shrink, s.Head) {
			return false
		}
	}
	return true
}

func TestP10_1Is(t *testing.T) {
	l := rising()
	for n := range len(l) + 1 {
		if !state.Is(l[:n]) || !state.Is(l[n:]) {
			t.Error("no state:", l[:n], l[n:])
		}
	}
	for i, a := range l {
		for j, b := range l {
			if state.Is([]api.Stmt{a, b}) != (i < j) {
				t.Errorf("%v, %v: Is isn't %v", a, b, i < j)
			}
		}
		changed := slices.Clone(l)
		if i > 0 {
			changed[i-1], changed[i] = changed[i], changed[i-1]
			if state.Is(changed) {
				t.Error("a state in another order", i)
			}
		}
		if state.Is(slices.Insert(slices.Clone(l), i, a)) {
			t.Error("a state with one twice", i)
		}
		if !state.Is(slices.Delete(slices.Clone(l), i, i+1)) {
			t.Error("no state without one", i)
		}
	}
	for _, s := range wrong() {
		if state.Is([]api.Stmt{s}) {
			t.Errorf("a state of %v", s)
		}
		if state.Is(syn.Sort(append(rising(), s)...)) {
			t.Errorf("a state with %v", s)
		}
	}
	if !state.Is(nil) || !state.Is([]api.Stmt{}) {
		t.Error("no statements are no state")
	}
}

func TestP10_1Has(t *testing.T) {
	whole := slices.Concat(rising(), wrong())
	for i, s := range whole {
		for j := range whole {
			if got := state.Has(whole[:j], s); got != (i < j) {
				t.Errorf("of %d statements %v is one: %v", j, s, got)
			}
		}
		rest := slices.Delete(slices.Clone(whole), i, i+1)
		if state.Has(rest, s) {
			t.Errorf("all others have %v", s)
		}
		slices.Reverse(rest)
		if !state.Has(append(rest, s), s) || !state.Has(append([]api.Stmt{s}, rest...), s) {
			t.Errorf("not all have %v", s)
		}
	}
	if state.Has(nil, api.Stmt{}) || state.Has([]api.Stmt{both(ar, as, bs)}, both(ar, bs, as)) {
		t.Error("one is had that isn't in")
	}
}

func TestP10_1Told(t *testing.T) {
	x, y, z := member(ar, "A"), member(ar, "B"), incl(as, br)
	odd := both(ar, bs, as)
	for _, c := range []struct{ a, b, union, minus []api.Stmt }{
		{nil, nil, nil, nil},
		{nil, []api.Stmt{x}, []api.Stmt{x}, nil},
		{[]api.Stmt{x}, nil, []api.Stmt{x}, []api.Stmt{x}},
		{[]api.Stmt{x}, []api.Stmt{x}, []api.Stmt{x}, nil},
		{[]api.Stmt{y}, []api.Stmt{x}, []api.Stmt{x, y}, []api.Stmt{y}},
		{[]api.Stmt{x, y}, []api.Stmt{x, y, z}, []api.Stmt{x, y, z}, nil},
		{[]api.Stmt{x, y, z}, []api.Stmt{y}, []api.Stmt{x, y, z}, []api.Stmt{x, z}},
		{[]api.Stmt{z, y, x}, []api.Stmt{y}, []api.Stmt{x, y, z}, []api.Stmt{x, z}},
		{[]api.Stmt{z, z, x, z, x}, []api.Stmt{y, y}, []api.Stmt{x, y, z}, []api.Stmt{x, z}},
		{[]api.Stmt{x, z}, []api.Stmt{z, y, x, z}, []api.Stmt{x, y, z}, nil},
		{[]api.Stmt{odd, x}, []api.Stmt{both(ar, as, bs)}, []api.Stmt{x, both(ar, as, bs), odd}, []api.Stmt{x, odd}},
		{[]api.Stmt{{}}, []api.Stmt{x}, []api.Stmt{{}, x}, []api.Stmt{{}}},
	} {
		if got := state.Union(c.a, c.b); !slices.Equal(got, c.union) {
			t.Errorf("Union of %v and %v: %v", c.a, c.b, got)
		}
		if got := state.Union(c.b, c.a); !slices.Equal(got, c.union) {
			t.Errorf("Union of %v and %v: %v", c.b, c.a, got)
		}
		if got := state.Minus(c.a, c.b); !slices.Equal(got, c.minus) {
			t.Errorf("Minus of %v and %v: %v", c.a, c.b, got)
		}
	}
}

func TestP10_1About(t *testing.T) {
	l := rising()
	back := slices.Concat(l, l)
	slices.Reverse(back)
	for r, n := range map[api.Role]int{ar: 10, as: 4, br: 5, bs: 0, {}: 0, role("", "r"): 0, role("A", ""): 0} {
		want := such(l, func(s api.Stmt) bool { return s.Head == r })
		if len(want) != n {
			t.Errorf("about %v are %d", r, len(want))
		}
		if got := state.About(l, r); !slices.Equal(got, want) {
			t.Errorf("about %v: %v", r, got)
		}
		if got := state.About(back, r); !slices.Equal(got, want) {
			t.Errorf("about %v, in another order: %v", r, got)
		}
	}
	if got := state.About([]api.Stmt{{}, {Kind: 9, Who: "A"}, {}}, api.Role{}); !slices.Equal(got, []api.Stmt{{}, {Kind: 9, Who: "A"}}) {
		t.Error(got)
	}
	if got := state.About(nil, ar); len(got) != 0 {
		t.Error(got)
	}
}

func TestP10_1Drawn(t *testing.T) {
	d := dice(10)
	all := slices.Concat(rising(), rising(), wrong())
	for range 3000 {
		a, b := d.stmts(d.below(12), all), d.stmts(d.below(12), all)
		yes := func(api.Stmt) bool { return true }
		if got, want := state.Union(a, b), such(slices.Concat(b, a), yes); !slices.Equal(got, want) {
			t.Fatalf("Union of %v and %v: %v", a, b, got)
		}
		if got, want := state.Minus(a, b), such(a, func(s api.Stmt) bool { return !is(b, s) }); !slices.Equal(got, want) {
			t.Fatalf("Minus of %v and %v: %v", a, b, got)
		}
		if got, want := state.About(a, ar), such(a, func(s api.Stmt) bool { return s.Head == ar }); !slices.Equal(got, want) {
			t.Fatalf("About of %v: %v", a, got)
		}
		if got, want := state.Is(a), slices.Equal(a, such(a, syn.Right)); got != want {
			t.Fatalf("Is of %v: %v", a, got)
		}
		if got, want := state.Same(a, b), slices.Equal(a, b); got != want {
			t.Fatalf("Same of %v and %v: %v", a, b, got)
		}
		if s := all[d.below(len(all))]; state.Has(a, s) != is(a, s) {
			t.Fatalf("Has of %v and %v: %v", a, s, !is(a, s))
		}
	}
}

func TestP10_1Same(t *testing.T) {
	l := slices.Concat(rising(), wrong())
	for i := range l {
		other := slices.Clone(l)
		if !state.Same(l, other) {
			t.Fatal("a row isn't itself")
		}
		other[i].Who += "X"
		if state.Same(l, other) || state.Same(other, l) {
			t.Error("two rows are the same, but one", i)
		}
		short := slices.Delete(slices.Clone(l), i, i+1)
		if state.Same(l, short) || state.Same(short, l) || state.Same(l[:i], l) {
			t.Error("one less is the same", i)
		}
	}
	x, y := member(ar, "A"), member(ar, "B")
	if state.Same([]api.Stmt{x, y}, []api.Stmt{y, x}) || state.Same([]api.Stmt{x}, []api.Stmt{x, x}) {
		t.Error("rows in another order, or doubled, are the same")
	}
	if !state.Same(nil, []api.Stmt{}) || !state.Same([]api.Stmt{}, nil) || state.Same(nil, []api.Stmt{{}}) {
		t.Error("nil isn't empty")
	}
}

// bound is a policy of these statements, with roles that may not grow, or shrink.
func bound(grow, shrink []api.Role, l ...api.Stmt) api.Policy {
	return api.Policy{Stmts: l, Grow: grow, Shrink: shrink}
}

func TestP10_2May(t *testing.T) {
	fixed := []api.Role{ar}
	for _, c := range []struct {
		what        string
		p           api.Policy
		s           api.Stmt
		come, leave bool
	}{
		{"the chapter's example", bound(fixed, fixed, member(ar, "B")), member(ar, "B"), false, false},
		{"another role", bound(fixed, fixed, member(ar, "B")), member(as, "B"), true, true},
		{"another owner", bound(fixed, fixed), member(br, "B"), true, true},
		{"may not grow", bound(fixed, nil), incl(ar, bs), false, true},
		{"may not shrink", bound(nil, fixed), incl(ar, bs), true, false},
		{"may both", bound(nil, nil), incl(ar, bs), true, true},
		{"the last of several", bound([]api.Role{as, br, ar}, []api.Role{br, as, ar}), both(ar, as, bs), false, false},
		{"none of several", bound([]api.Role{as, br}, []api.Role{br, as}), both(ar, as, bs), true, true},
		{"one that may not grow, one that may not shrink", bound([]api.Role{as}, []api.Role{br}), link(br, as, "s"), true, false},
		{"roles that it speaks of", bound([]api.Role{as, bs}, []api.Role{as, bs}), both(ar, as, bs), true, true},
		{"what isn't right", bound(nil, nil), both(ar, bs, as), false, true},
		{"what isn't right, and may not go", bound(nil, fixed), member(ar, "b"), false, false},
		{"nothing", bound(nil, nil), api.Stmt{}, false, true},
		{"nothing, of no role", bound([]api.Role{{}}, []api.Role{{}}), api.Stmt{}, false, false},
	} {
		if got := state.MayCome(c.p, c.s); got != c.come {
			t.Errorf("%s: may come: %v", c.what, got)
		}
		if got := state.MayGo(c.p, c.s); got != c.leave {
			t.Errorf("%s: may go: %v", c.what, got)
		}
	}
	for _, s := range wrong() {
		if state.MayCome(bound(nil, nil), s) || state.MayCome(bound(nil, nil, s), s) || !state.MayGo(bound([]api.Role{s.Head}, nil), s) || state.MayGo(bound(nil, []api.Role{s.Head}), s) {
			t.Errorf("%v may come, or go", s)
		}
	}
}

func TestP10_2Told(t *testing.T) {
	x, y, z := member(ar, "A"), member(ar, "B"), incl(as, br)
	odd := both(ar, bs, as)
	l := func(l ...api.Stmt) []api.Stmt { return l }
	r := func(l ...api.Role) []api.Role { return l }
	for _, c := range []struct {
		what string
		p    api.Policy
		c    []api.Stmt
		want bool
	}{
		{"nothing of nothing", api.Policy{}, nil, true},
		{"its own", bound(nil, nil, x, z), l(x, z), true},
		{"its own, all bound", bound(r(ar, as), r(ar, as), x, z), l(x, z), true},
		{"its own, in another order, doubled", bound(r(ar, as), r(ar, as), x, z), l(z, x, x, z), true},
		{"one more", bound(nil, nil, x), l(x, y), true},
		{"one more, though nothing may go", bound(nil, r(ar, as), x), l(x, y), true},
		{"one more that may not come", bound(r(ar), nil, x), l(x, y), false},
		{"one more of another role", bound(r(ar), nil, x), l(x, z), true},
		{"one more of both", bound(r(ar), nil, x), l(x, y, z), false},
		{"one less", bound(nil, nil, x, y), l(y), true},
		{"one less, though nothing may come", bound(r(ar, as), nil, x, y), l(y), true},
		{"one less that may not go", bound(nil, r(ar), x, y), l(y), false},
		{"one less of another role", bound(nil, r(ar), x, z), l(x), true},
		{"nothing", bound(nil, nil, x, y, z), nil, true},
		{"nothing, of what may not go", bound(nil, r(as), x, y, z), nil, false},
		{"just what may not go", bound(nil, r(as), x, y, z), l(z), true},
		{"one for another one", bound(r(as), r(as), x, z), l(y, z), true},
		{"one for another one, neither may come", bound(r(ar), nil, x, z), l(y, z), false},
		{"one for another one, neither may go", bound(nil, r(ar), x, z), l(y, z), false},
		{"what isn't right", bound(nil, nil, x), l(x, odd), false},
		{"what isn't right, of its own", bound(nil, nil, x, odd), l(x, odd), false},
		{"without what isn't right", bound(nil, nil, x, odd), l(x), true},
		{"without what isn't right, and may not go", bound(nil, r(ar), odd), nil, false},
		{"unordered ones of its own", bound(r(ar, as), r(ar, as), z, y, x, y), l(y, z, x), true},
		{"unordered ones, one of them gone", bound(nil, r(as), z, y, x, z), l(y, x), false},
	} {
		if got := state.Reaches(c.p, c.c); got != c.want || reaches(c.p, c.c) != c.want {
			t.Errorf("%s: %v", c.what, got)
		}
	}
}

func TestP10_2Added(t *testing.T) {
	x, y, z := member(ar, "A"), member(ar, "B"), incl(as, br)
	p := bound([]api.Role{ar, as}, []api.Role{ar, as}, z, x, z)
	c := []api.Stmt{y, z, y, member(bs, "")}
	if got := state.Added(p, c); !slices.Equal(got, []api.Stmt{y, member(bs, "")}) {
		t.Error("added:", got)
	}
	if got := state.Gone(p, c); !slices.Equal(got, []api.Stmt{x}) {
		t.Error("gone:", got)
	}
	if got := state.Added(p, nil); len(got) != 0 {
		t.Error("added:", got)
	}
	if got := state.Gone(p, nil); !slices.Equal(got, []api.Stmt{x, z}) {
		t.Error("gone:", got)
	}
	if got := state.Added(api.Policy{}, c); !slices.Equal(got, []api.Stmt{y, z, member(bs, "")}) {
		t.Error("added:", got)
	}
	if got := state.Gone(api.Policy{}, c); len(got) != 0 {
		t.Error("gone:", got)
	}
}

// TestP10_2Each: of all sets of six statements, of all restrictions of their roles.
func TestP10_2Each(t *testing.T) {
	all := []api.Stmt{member(ar, "A"), incl(ar, as), member(as, "B"), both(as, bs, ar), link(br, ar, "s"), both(br, ar, as)}
	sets := func(bits int) []api.Stmt {
		var l []api.Stmt
		for i, s := range all {
			if bits>>i&1 == 1 {
				l = append(l, s)
			}
		}
		return l
	}
	some := func(bits int) []api.Role {
		var l []api.Role
		for i, r := range []api.Role{ar, as, br} {
			if bits>>i&1 == 1 {
				l = append(l, r)
			}
		}
		return l
	}
	for own := range 64 {
		for bits := range 64 {
			p := bound(some(bits&7), some(bits>>3), sets(own)...)
			for to := range 64 {
				c := sets(to)
				if want := reaches(p, c); state.Reaches(p, c) != want {
					t.Fatalf("%v reaches %v: %v", p, c, !want)
				}
			}
		}
	}
}

func TestP10_2Drawn(t *testing.T) {
	d := dice(102)
	all := slices.Concat(rising(), rising(), rising(), wrong())
	yes := 0
	for range 4000 {
		p := bound(d.roles(d.below(4)), d.roles(d.below(4)), d.stmts(d.below(8), all)...)
		c := d.stmts(d.below(5), all)
		if d.below(2) == 0 {
			c = append(c, p.Stmts...)
		}
		want := reaches(p, c)
		if state.Reaches(p, c) != want {
			t.Fatalf("%v reaches %v: %v", p, c, !want)
		}
		if want {
			yes++
		}
		if got, want := state.Added(p, c), such(c, func(s api.Stmt) bool { return !is(p.Stmts, s) }); !slices.Equal(got, want) {
			t.Fatalf("%v, %v: added %v", p, c, got)
		}
		if got, want := state.Gone(p, c), such(p.Stmts, func(s api.Stmt) bool { return !is(c, s) }); !slices.Equal(got, want) {
			t.Fatalf("%v, %v: gone %v", p, c, got)
		}
		s := all[d.below(len(all))]
		if want := syn.Right(s) && !slices.Contains(p.Grow, s.Head); state.MayCome(p, s) != want {
			t.Fatalf("%v: %v may come: %v", p, s, !want)
		}
		if want := !slices.Contains(p.Shrink, s.Head); state.MayGo(p, s) != want {
			t.Fatalf("%v: %v may go: %v", p, s, !want)
		}
	}
	if yes < 500 || yes > 3500 {
		t.Error("drawn ones that are reached:", yes)
	}
}

// TestP10_3Own: a policy reaches its own statements, whatever is bound.
func TestP10_3Own(t *testing.T) {
	d := dice(103)
	for range 1000 {
		p := bound(d.roles(d.below(5)), d.roles(d.below(5)), d.stmts(d.below(15), rising())...)
		if !state.Reaches(p, p.Stmts) || !state.Reaches(p, syn.Sort(p.Stmts...)) {
			t.Fatalf("%v doesn't reach its own", p)
		}
	}
}

// TestP10_3Further: what is reached from what is reached is reached.
func TestP10_3Further(t *testing.T) {
	d := dice(1003)
	seen := 0
	for range 6000 {
		p := bound(d.roles(d.below(3)), d.roles(d.below(3)), d.stmts(d.below(6), rising())...)
		c := d.near(p.Stmts)
		e := d.near(c)
		if !state.Reaches(p, c) || !state.Reaches(bound(p.Grow, p.Shrink, c...), e) {
			continue
		}
		seen++
		if !state.Reaches(p, e) {
			t.Fatalf("%v reaches %v, that %v", p, c, e)
		}
	}
	if seen < 500 {
		t.Error("there were few:", seen)
	}
}

// near draws a row that isn't far from l.
func (d *dice) near(l []api.Stmt) []api.Stmt {
	out := slices.Clone(l)
	for range d.below(3) {
		if n := len(out); n > 0 && d.below(2) == 0 {
			at := d.below(n)
			out = slices.Delete(out, at, at+1)
		} else {
			out = append(out, d.stmts(1, rising())...)
		}
	}
	return out
}

// TestApart: what is handed in isn't changed, its spare room included, nor kept, and each answer is new memory.
func TestApart(t *testing.T) {
	room := []api.Stmt{incl(as, br), member(ar, "B"), member(ar, "A"), member(ar, "B"), {Who: "spare"}, {Who: "room"}}
	more := []api.Stmt{member(ar, "B"), incl(br, bs), {Who: "spare"}, {Who: "more"}}
	roles := []api.Role{br, as, {Owner: "spare"}}
	a, b := room[:4], more[:2]
	p := bound(roles[:2], roles[:2], a...)
	was, wasMore, wasRoles := slices.Clone(room), slices.Clone(more), slices.Clone(roles)
	calls := map[string]func() []api.Stmt{
		"Union": func() []api.Stmt { return state.Union(a, b) },
		"Minus": func() []api.Stmt { return state.Minus(a, b) },
		"About": func() []api.Stmt { return state.About(a, ar) },
		"Added": func() []api.Stmt { return state.Added(p, b) },
		"Gone":  func() []api.Stmt { return state.Gone(p, b) },
		"rest": func() []api.Stmt {
			state.Is(a)
			state.Has(a, b[0])
			state.Same(a, b)
			state.Reaches(p, b)
			state.MayCome(p, b[0])
			state.MayGo(p, b[0])
			return nil
		},
	}
	for what, call := range calls {
		first := call()
		want := slices.Clone(first)
		again := call()
		again = again[:cap(again)]
		for i := range again {
			again[i] = api.Stmt{Who: "changed"}
		}
		if !slices.Equal(room, was) || !slices.Equal(more, wasMore) || !slices.Equal(roles, wasRoles) {
			t.Fatalf("%s: what was handed in isn't as it was", what)
		}
		for i := range room {
			room[i] = api.Stmt{Who: "gone"}
		}
		if !slices.Equal(first, want) {
			t.Errorf("%s: the answer isn't as it was", what)
		}
		copy(room, was)
	}
	sorted := rising()
	got := state.Union(sorted, nil)
	got[0].Who = "changed"
	other := state.Minus(sorted, nil)
	other[0].Who = "changed"
	if !slices.Equal(sorted, rising()) {
		t.Error("what was handed in, in order, is answered")
	}
}

// TestMany: rows of many statements.
func TestMany(t *testing.T) {
	var l []api.Stmt
	for _, owner := range "ABCDEFGHIJKLMNOPQRSTUVWX" {
		for _, name := range "abcdefghijkl" {
			for _, who := range "ABCDEFGHIJKLMNOPQRSTUVWX" {
				l = append(l, member(role(string(owner), string(name)), string(who)))
			}
		}
	}
	p := bound([]api.Role{ar}, []api.Role{bs}, l[:10]...)
	if !state.Is(l) || !state.Reaches(p, l) || len(state.Added(p, l)) != len(l)-10 || len(state.Gone(p, l)) != 0 {
		t.Error("many statements aren't reached")
	}
	if got := state.Minus(l, l[1:]); !state.Same(got, l[:1]) || !state.Same(state.Union(l[7:], l[:9]), l) {
		t.Error(len(got))
	}
}
