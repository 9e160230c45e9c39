package low_test

import (
	"math"
	"slices"
	"strings"
	"testing"

	"crupper/api"
	"crupper/low"
	"crupper/plain"
	"crupper/policy"
	"crupper/sem"
	"crupper/state"
	"crupper/syn"
	"crupper/table"
)

// Roles of A, B and C.
var (
	ar = role("A", "r")
	as = role("A", "s")
	br = role("B", "r")
	bs = role("B", "s")
	cr = role("C", "r")
	cs = role("C", "s")
)

func role(owner, name string) api.Role { return plain.Role(owner, name) }

// drawn is a policy about A, B, C and r, s.
func drawn(d *plain.Dice) api.Policy { return d.Policy([]string{"A", "B", "C"}, []string{"r", "s"}) }

// told are policies, what of them stays, and who is in A.r then.
var told = []struct {
	text, stays string
	members     []string
}{
	{"", "", nil},
	{"A.r <- B; A.s <- C; shrink A.s", "A.s <- C", nil},
	{"A.r <- B", "", nil},
	{"A.r <- B; grow A.r", "", nil},
	{"A.r <- B; shrink A.r", "A.r <- B", []string{"B"}},
	{"A.r <- B; shrink A.r; grow A.r", "A.r <- B", []string{"B"}},
	{"shrink A.r", "", nil},
	{"A.r <- C; A.r <- B; A.r <- A; shrink A.r", "A.r <- A; A.r <- B; A.r <- C", []string{"A", "B", "C"}},
	{"A.r <- Ab; A.r <- B; A.r <- A1; A.r <- AB; A.r <- AA1; shrink A.r", "A.r <- A1; A.r <- AA1; A.r <- AB; A.r <- Ab; A.r <- B", []string{"A1", "AA1", "AB", "Ab", "B"}},
	{"A.r <- B.s; B.s <- C; shrink A.r; shrink B.s", "A.r <- B.s; B.s <- C", []string{"C"}},
	{"A.r <- B.s; B.s <- C; shrink A.r", "A.r <- B.s", nil},
	{"A.r <- B.s; B.s <- C; shrink B.s", "B.s <- C", nil},
	{"A.r <- B.s.t; B.s <- C; C.t <- D; shrink A.r; shrink B.s; shrink C.t", "A.r <- B.s.t; B.s <- C; C.t <- D", []string{"D"}},
	{"A.r <- B.s.t; B.s <- C; C.t <- D; shrink A.r; shrink B.s", "A.r <- B.s.t; B.s <- C", nil},
	{"A.r <- B.s & C.t; B.s <- D; C.t <- D; C.t <- E; shrink A.r; shrink B.s; shrink C.t", "A.r <- B.s & C.t; B.s <- D; C.t <- D; C.t <- E", []string{"D"}},
	{"A.r <- B.s & C.t; B.s <- D; C.t <- D; shrink A.r; shrink B.s", "A.r <- B.s & C.t; B.s <- D", nil},
	{"A.r <- A.r; A.r <- B; shrink A.r", "A.r <- B; A.r <- A.r", []string{"B"}},
	{"A.r <- B; shrink A.r; always A.r has C D", "A.r <- B", []string{"B"}},
	{"A.r <- B; A.r <- C; A.r1 <- D; Ab.r <- D; shrink A.r1; shrink Ab.r", "A.r1 <- D; Ab.r <- D", nil},
}

func TestP11_1Told(t *testing.T) {
	for _, c := range told {
		p := plain.Policy(c.text)
		if got, want := low.Minimal(p), plain.Policy(c.stays).Stmts; !slices.Equal(got, want) {
			t.Errorf("%s: %v stay, not %v", c.text, got, want)
		}
		if got := low.Members(p, ar); !slices.Equal(got, c.members) {
			t.Errorf("%s: in A.r are %v, not %v", c.text, got, c.members)
		}
	}
}

// TestP11_1Minimal: of statements of all kinds, with each set of roles that may not shrink.
func TestP11_1Minimal(t *testing.T) {
	p := plain.Policy("A.r <- B; A.r <- B.s; A.s <- C.r.s; A.s <- B; B.r <- A.r & C.s; B.s <- A.s; B.s <- A; C.r <- A; C.s <- A.r.r; grow A.r; grow B.s")
	roles := []api.Role{ar, as, br, bs, cr, cs}
	for bits := range 1 << len(roles) {
		p.Shrink = nil
		for i, r := range roles {
			if bits>>i&1 == 1 {
				p.Shrink = append(p.Shrink, r)
			}
		}
		if got, want := low.Minimal(p), plain.Kept(p); !slices.Equal(got, want) {
			t.Errorf("of %v stay %v, not %v", p.Shrink, got, want)
		}
	}
}

// holds says what is wrong with the table, the model and the members of p.
func holds(t *testing.T, p api.Policy) {
	t.Helper()
	l, m := low.Eval(p)
	if l == nil || m == nil || !slices.Equal(l.Prins().All(), policy.Prins(p)) || !slices.Equal(l.Links().All(), policy.Names(p)) {
		t.Fatalf("%v: the table isn't that for it", p)
	}
	want := plain.Least(plain.Kept(p))
	for i := range l.Roles() {
		r := l.RoleAt(i)
		for who := range l.Prins().Len() {
			if is := want.Has(r, l.Prins().At(who)); m.In(i, who) != is {
				t.Errorf("%v: %s is in %v: %v", p, l.Prins().At(who), r, !is)
			}
		}
		if got := low.Members(p, r); !slices.Equal(got, want.Of(r)) {
			t.Errorf("%v: in %v are %v, not %v", p, r, got, want.Of(r))
		}
	}
	if m.In(l.Roles(), 0) || m.In(0, l.Prins().Len()) || m.In(-1, 0) {
		t.Errorf("%v: the model has more than the table", p)
	}
	rules := l.Rules(plain.Kept(p)...)
	steps := sem.Eval(l.Prins().Len(), l.Links().Len(), rules...).Steps()
	if m.Steps() != steps || low.Steps(p) != steps {
		t.Errorf("%v: %d steps, and %d, not %d", p, m.Steps(), low.Steps(p), steps)
	}
}

func TestP11_1Eval(t *testing.T) {
	for _, c := range told {
		holds(t, plain.Policy(c.text))
	}
	d := plain.Dice(111)
	for range 600 {
		if holds(t, drawn(&d)); t.Failed() {
			return
		}
	}
}

// TestP11_1Outside: in a role that isn't one of the table's nobody is, whoever else is one of its principals or names.
func TestP11_1Outside(t *testing.T) {
	p := plain.Policy("A.r <- B; A.r <- C.s; C.s <- C; shrink A.r; shrink C.s; grow D.t; always A.r has E")
	for _, r := range []api.Role{{}, role("A", ""), role("", "r"), role("X1", "r"), role("F", "r"), role("A", "x"), role("A", "R"), role("a", "r"), role("r", "A"), role("A", "B"), role("A.r", ""), role("A", "r "), role("\xff", "r"), role("AA", "r")} {
		if got := low.Members(p, r); len(got) != 0 {
			t.Errorf("in %v are %v", r, got)
		}
	}
	for _, r := range []api.Role{role("B", "r"), role("E", "s"), role("D", "t"), role("A", "t"), role("A", "s")} {
		if got := low.Members(p, r); len(got) != 0 {
			t.Errorf("in %v are %v", r, got)
		}
	}
	if got := low.Members(p, ar); !slices.Equal(got, []string{"B", "C"}) {
		t.Errorf("in A.r are %v", got)
	}
	l, _ := low.Eval(p)
	if !slices.Equal(l.Prins().All(), []string{"A", "B", "C", "D", "E"}) || !slices.Equal(l.Links().All(), []string{"r", "s", "t"}) {
		t.Error("the table has", l.Prins().All(), l.Links().All())
	}
}

// TestP11_1Steps: what may go takes no step; what stays takes some.
func TestP11_1Steps(t *testing.T) {
	for text, some := range map[string]bool{
		"": false, "A.r <- B": false, "A.r <- B; A.s <- A.r; grow A.r; shrink B.r": false, "A.r <- B; shrink A.r": true, "A.r <- A.s; shrink A.r": true,
	} {
		if got := low.Steps(plain.Policy(text)); got < 0 || got > 0 != some {
			t.Errorf("%s: %d steps", text, got)
		}
	}
	p := plain.Policy("A.r <- B; A.r <- C; A.s <- A.r; shrink A.r; shrink A.s")
	less := plain.Policy("A.r <- B; A.r <- C; A.s <- A.r; shrink A.r")
	if low.Steps(p) <= low.Steps(less) || low.Steps(p) > sem.Bound(3, 2, 3) {
		t.Error(low.Steps(p), low.Steps(less))
	}
}

// TestP11_1Full: as many principals, names and statements as there may be.
func TestP11_1Full(t *testing.T) {
	p := full()
	if !policy.Right(p) || len(p.Stmts) != api.MaxStmts || len(policy.Prins(p)) != api.MaxPrins || len(policy.Names(p)) != api.MaxLinks {
		t.Fatal(len(p.Stmts), len(policy.Prins(p)), len(policy.Names(p)))
	}
	holds(t, p)
	if got := low.Members(p, role("A", "a")); len(got) == 0 {
		t.Error("nobody is in A.a")
	}
}

// full is a policy that has as much as there may be.
func full() api.Policy {
	var prins, links []string
	for i := range api.MaxPrins {
		prins = append(prins, string(rune('A'+i)))
	}
	for i := range api.MaxLinks {
		links = append(links, string(rune('a'+i)))
	}
	var p api.Policy
	for i, owner := range prins {
		p.Stmts = append(p.Stmts, plain.Member(role(owner, "a"), prins[(i+1)%len(prins)]))
		p.Shrink = append(p.Shrink, role(owner, "a"))
	}
	for i, name := range links {
		p.Stmts = append(p.Stmts, plain.Incl(role("A", name), role("B", links[(i+1)%len(links)])))
		if i > 0 {
			p.Shrink = append(p.Shrink, role("A", name))
		}
	}
	d := plain.Dice(16)
	for len(syn.Sort(p.Stmts...)) < api.MaxStmts {
		p.Stmts = append(p.Stmts, d.Stmt(prins, links))
	}
	return policy.Normal(p)
}

// TestP11_2: a policy reaches what stays, and each state that it reaches has all of that.
func TestP11_2(t *testing.T) {
	d := plain.Dice(112)
	for range 600 {
		p := drawn(&d)
		stays := low.Minimal(p)
		if !state.Is(stays) || !state.Reaches(p, stays) {
			t.Fatalf("%v doesn't reach %v", p, stays)
		}
		for range 4 {
			c := d.Reached(p)
			if !state.Reaches(p, c) || len(state.Minus(stays, c)) != 0 {
				t.Fatalf("%v: %v hasn't all of %v", p, c, stays)
			}
		}
		for i, s := range stays {
			if state.Reaches(p, slices.Delete(slices.Clone(stays), i, i+1)) {
				t.Fatalf("%v reaches a state without %v", p, s)
			}
		}
	}
}

// TestP11_2Each: all states of some statements that are reached, and none else, have what stays.
func TestP11_2Each(t *testing.T) {
	d := plain.Dice(1102)
	for range 60 {
		p := drawn(&d)
		p.Stmts = p.Stmts[:min(len(p.Stmts), 5)]
		stays := low.Minimal(p)
		for bits := range 1 << len(p.Stmts) {
			var c []api.Stmt
			for i, s := range p.Stmts {
				if bits>>i&1 == 1 {
					c = append(c, s)
				}
			}
			if state.Reaches(p, c) != (len(state.Minus(stays, c)) == 0) {
				t.Fatalf("%v, of which stays %v: %v", p, stays, c)
			}
		}
	}
}

// TestP11_3: who is of Members is in the role in each state that is reached; in what stays nobody else is.
func TestP11_3(t *testing.T) {
	d := plain.Dice(113)
	some := 0
	for range 500 {
		p := drawn(&d)
		l := table.For(p)
		for range 3 {
			m := plain.Least(d.Reached(p))
			for i := range l.Roles() {
				for _, who := range low.Members(p, l.RoleAt(i)) {
					if some++; !m.Has(l.RoleAt(i), who) {
						t.Fatalf("%v: %s needn't be in %v", p, who, l.RoleAt(i))
					}
				}
			}
		}
	}
	if some < 1000 {
		t.Error("few are in roles:", some)
	}
}

// TestWrong: of policies that aren't right nothing is promised, but that each call ends.
func TestWrong(t *testing.T) {
	many := api.Policy{Shrink: []api.Role{ar}}
	for i := range 300 {
		name := strings.Repeat("x", i)
		many.Stmts = append(many.Stmts, plain.Member(role("P"+name, name), "Q"+name), plain.Link(ar, role("P"+name, name), "y"+name))
		many.Shrink = append(many.Shrink, role("P"+name, name))
	}
	for _, p := range []api.Policy{
		{Stmts: []api.Stmt{{}, {Kind: math.MinInt, Head: ar}, {Kind: 5, Head: ar}, plain.Member(ar, ""), plain.Both(ar, bs, as), {Kind: api.Both, Head: ar, A: bs, B: as}}, Shrink: []api.Role{ar, {}, ar}},
		{Stmts: []api.Stmt{plain.Member(bs, "C"), plain.Incl(ar, bs), plain.Member(bs, "C")}, Grow: []api.Role{{}, {Owner: "\xff"}}, Shrink: []api.Role{bs, ar}},
		{Asks: []api.Query{{}, {Kind: 99, Who: []string{"", "b"}}}, Shrink: []api.Role{{}}},
		many,
	} {
		low.Minimal(p)
		low.Steps(p)
		if l, m := low.Eval(p); l == nil || m == nil {
			t.Errorf("no table, or no model")
		}
		for _, r := range []api.Role{ar, bs, {}, role("P", ""), role("Px", "x")} {
			low.Members(p, r)
		}
	}
}

// TestApart: what is handed in isn't changed, its spare room included, nor kept, and each answer is new memory.
func TestApart(t *testing.T) {
	p := plain.Policy("A.r <- B; A.r <- B.s; A.s <- C; B.s <- C; shrink A.r; shrink B.s; always A.r has B")
	stmts := append(slices.Clone(p.Stmts), plain.Member(cr, "Spare"), plain.Member(cs, "Room"))
	roles := append(slices.Clone(p.Shrink), role("Spare", "r"))
	p.Stmts, p.Shrink = stmts[:len(p.Stmts)], roles[:len(p.Shrink)]
	was, wasRoles := slices.Clone(stmts), slices.Clone(roles)
	first := low.Minimal(p)
	want := slices.Clone(first)
	_, m := low.Eval(p)
	got := low.Members(p, ar)
	if low.Steps(p); !slices.Equal(stmts, was) || !slices.Equal(roles, wasRoles) {
		t.Fatal("what was handed in isn't as it was")
	}
	again := low.Minimal(p)
	again = again[:cap(again)]
	for i := range again {
		again[i] = api.Stmt{Who: "changed"}
	}
	if !slices.Equal(stmts, was) || !slices.Equal(first, want) {
		t.Error("an answer is not new memory")
	}
	clear(stmts)
	clear(roles)
	if !slices.Equal(first, want) || !slices.Equal(got, []string{"B", "C"}) || !slices.Equal(m.Members(0), []int{1, 2}) {
		t.Error("what was handed in is kept:", first, got, m.Members(0))
	}
}
