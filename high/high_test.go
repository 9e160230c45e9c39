package high_test

import (
	"math"
	"slices"
	"strings"
	"testing"

	"crupper/api"
	"crupper/high"
	"crupper/plain"
	"crupper/policy"
	"crupper/sem"
	"crupper/state"
	"crupper/syn"
	"crupper/table"
)

// Roles of A, B and C.
var (
	ar = role("A", "r")
	as = role("A", "s")
	br = role("B", "r")
	bs = role("B", "s")
	cr = role("C", "r")
	cs = role("C", "s")
)

func role(owner, name string) api.Role { return plain.Role(owner, name) }

// drawn is a policy about A, B, C and r, s; in some, X1 stands for C.
func drawn(d *plain.Dice) api.Policy {
	prins := []string{"A", "B", "C"}
	if d.Below(4) == 0 {
		prins[2] = "X1"
	}
	return d.Policy(prins, []string{"r", "s"})
}

// everybody is whom p names, and a fresh one, rising.
func everybody(p api.Policy) []string {
	l := append(policy.Prins(p), high.Fresh(p))
	slices.Sort(l)
	return l
}

func TestP12_1Fresh(t *testing.T) {
	for text, want := range map[string]string{
		"": "X1", "A.r <- B": "X1", "A.r <- X1": "X2", "X1.r <- B": "X2", "A.r <- X1.s": "X2", "A.r <- X1.s.t": "X2", "A.r <- B.s & X1.s": "X2",
		"A.r <- X2": "X1", "X2.r <- X1": "X3", "grow X1.r": "X2", "shrink X1.r": "X2", "always A.r has X1": "X2", "can X1.r be empty": "X2", "always A.r in X1.r": "X2",
		"A.r <- X1; grow X2.r; shrink X3.r; always A.r within X4": "X5", "A.r <- X10; A.r <- X01; A.r <- X": "X1", "A.x1 <- B": "X1",
		"A.r <- X1; A.r <- X2; A.r <- X3; A.r <- X4; A.r <- X5; A.r <- X6; A.r <- X7; A.r <- X8; A.r <- X9": "X10",
	} {
		if got := high.Fresh(plain.Policy(text)); got != want {
			t.Errorf("%s: %s, not %s", text, got, want)
		}
	}
}

func TestP12_1Roles(t *testing.T) {
	for text, want := range map[string]string{
		"":                               "",
		"A.r <- B":                       "A.r B.r X1.r",
		"A.r <- B; grow A.r":             "B.r X1.r",
		"A.r <- B; shrink A.r":           "A.r B.r X1.r",
		"A.r <- B.s; grow B.r":           "A.r A.s B.s X1.r X1.s",
		"A.r <- A.s.t":                   "A.r A.s A.t X1.r X1.s X1.t",
		"A.r <- Y; grow Y.r; grow Z.q":   "A.q A.r X1.q X1.r Y.q Z.r",
		"grow A.r":                       "X1.r",
		"shrink A.r":                     "A.r X1.r",
		"can A.r be empty":               "A.r X1.r",
		"always A.r has B":               "A.r B.r X1.r",
		"always A.r in B.s":              "A.r A.s B.r B.s X1.r X1.s",
		"X1.r <- X2; grow X3.r":          "X1.r X2.r X4.r",
		"A.b <- Ab; A.aB <- A1; A.a1<-Z": "A.a1 A.aB A.b A1.a1 A1.aB A1.b Ab.a1 Ab.aB Ab.b X1.a1 X1.aB X1.b Z.a1 Z.aB Z.b",
	} {
		if got := high.Roles(plain.Policy(text)); !slices.Equal(got, plain.Roles(want)) {
			t.Errorf("%s: %v, not %s", text, got, want)
		}
	}
	d := plain.Dice(121)
	for range 300 {
		p := drawn(&d)
		got := high.Roles(p)
		for i, r := range got {
			if i > 0 && !syn.Less(got[i-1], r) || slices.Contains(p.Grow, r) {
				t.Fatalf("%v: %v", p, got)
			}
		}
		for _, owner := range everybody(p) {
			for _, name := range policy.Names(p) {
				if r := role(owner, name); slices.Contains(got, r) == slices.Contains(p.Grow, r) {
					t.Fatalf("%v: %v", p, r)
				}
			}
		}
	}
}

func TestP12_1Maximal(t *testing.T) {
	for text, want := range map[string]string{
		"":                              "",
		"A.r <- B; grow A.r; grow B.r":  "A.r <- B; X1.r <- A; X1.r <- B; X1.r <- X1",
		"A.r <- B":                      "A.r <- A; A.r <- B; A.r <- X1; B.r <- A; B.r <- B; B.r <- X1; X1.r <- A; X1.r <- B; X1.r <- X1",
		"A.r <- A.r; grow A.r":          "A.r <- A.r; X1.r <- A; X1.r <- X1",
		"A.r <- A.r & A.r; shrink A.r":  "A.r <- A; A.r <- X1; A.r <- A.r & A.r; X1.r <- A; X1.r <- X1",
		"grow A.r":                      "X1.r <- A; X1.r <- X1",
		"always A.r within Z; grow A.r": "X1.r <- A; X1.r <- X1; X1.r <- Z; Z.r <- A; Z.r <- X1; Z.r <- Z",
	} {
		if got := high.Maximal(plain.Policy(text)); !slices.Equal(got, plain.Policy(want).Stmts) {
			t.Errorf("%s: %v, not %s", text, got, want)
		}
	}
	d := plain.Dice(1201)
	for range 300 {
		p := drawn(&d)
		if got := high.Maximal(p); !slices.Equal(got, plain.Greatest(p, high.Fresh(p))) {
			t.Fatalf("%v: %v, not %v", p, got, plain.Greatest(p, high.Fresh(p)))
		}
	}
}

// told are policies, and who is in A.r in the greatest state.
var told = []struct {
	text    string
	members []string
}{
	{"", nil},
	{"A.r <- B; grow A.r", []string{"B"}},
	{"A.r <- B", []string{"A", "B", "X1"}},
	{"shrink A.r", []string{"A", "X1"}},
	{"grow A.r", nil},
	{"A.r <- B.s; grow A.r", []string{"A", "B", "X1"}},
	{"A.r <- B.s; grow A.r; grow B.s", nil},
	{"A.r <- B.s; B.s <- C; grow A.r; grow B.s", []string{"C"}},
	{"A.r <- B.s.t; B.s <- C; grow A.r; grow B.s", []string{"A", "B", "C", "X1"}},
	{"A.r <- B.s.t; B.s <- C; C.t <- D; grow A.r; grow B.s; grow C.t", []string{"D"}},
	{"A.r <- B.s.t; B.s <- C; C.t <- D; grow A.r; grow B.s; grow C.t; B.s <- A", []string{"A", "B", "C", "D", "X1"}},
	{"A.r <- B.s.t; C.t <- D; grow A.r; grow A.t; grow B.t; grow C.t; grow D.t", []string{"A", "B", "C", "D", "X1"}},
	{"A.r <- B.s & C.s; C.s <- A; C.s <- D; grow A.r; grow C.s", []string{"A", "D"}},
	{"A.r <- B.s & C.s; grow A.r", []string{"A", "B", "C", "X1"}},
	{"A.r <- A.r; grow A.r", nil},
	{"A.r <- X1; grow X1.r; grow A.r", []string{"X1"}},
	{"A.r <- X1", []string{"A", "X1", "X2"}},
	{"A.r <- Z; A.r <- Aa; A.r <- A1; A.r <- AA; grow A.r", []string{"A1", "AA", "Aa", "Z"}},
	{"A.r <- Z; A.r <- Aa; A.r <- A1; A.r <- AA", []string{"A", "A1", "AA", "Aa", "X1", "Z"}},
	{"can A.r have B", []string{"A", "B", "X1"}},
}

// holds says what is wrong with the table, the model and the members of p.
func holds(t *testing.T, p api.Policy) {
	t.Helper()
	l, m := high.Eval(p)
	if l == nil || m == nil || !slices.Equal(l.Prins().All(), everybody(p)) || !slices.Equal(l.Links().All(), policy.Names(p)) {
		t.Fatalf("%v: the table isn't that for it", p)
	}
	want := plain.Least(plain.Greatest(p, high.Fresh(p)))
	for i := range l.Roles() {
		r := l.RoleAt(i)
		for who := range l.Prins().Len() {
			if is := want.Has(r, l.Prins().At(who)); m.In(i, who) != is {
				t.Errorf("%v: %s is in %v: %v", p, l.Prins().At(who), r, !is)
			}
		}
		if got := high.Members(p, r); !slices.Equal(got, want.Of(r)) {
			t.Errorf("%v: in %v are %v, not %v", p, r, got, want.Of(r))
		}
	}
	if m.In(l.Roles(), 0) || m.In(0, l.Prins().Len()) || m.In(-1, 0) {
		t.Errorf("%v: the model has more than the table", p)
	}
	rules := table.For(p, high.Fresh(p)).Rules(plain.Greatest(p, high.Fresh(p))...)
	steps := sem.Eval(l.Prins().Len(), l.Links().Len(), rules...).Steps()
	if m.Steps() != steps || high.Steps(p) != steps {
		t.Errorf("%v: %d steps, and %d, not %d", p, m.Steps(), high.Steps(p), steps)
	}
}

func TestP12_1Eval(t *testing.T) {
	for _, c := range told {
		p := plain.Policy(c.text)
		if got := high.Members(p, ar); !slices.Equal(got, c.members) {
			t.Errorf("%s: in A.r are %v, not %v", c.text, got, c.members)
		}
		holds(t, p)
	}
	d := plain.Dice(1212)
	for range 400 {
		if holds(t, drawn(&d)); t.Failed() {
			return
		}
	}
}

// TestP12_1Outside: in a role that isn't one of the table's nobody is.
func TestP12_1Outside(t *testing.T) {
	p := plain.Policy("A.r <- B; A.r <- C.s; C.s <- C; grow D.t; always A.r has E")
	for _, r := range []api.Role{{}, role("A", ""), role("", "r"), role("X2", "r"), role("F", "r"), role("A", "x"), role("A", "R"), role("a", "r"), role("r", "A"), role("A", "B"), role("\xff", "r"), role("AA", "r"), role("D", "t")} {
		if got := high.Members(p, r); len(got) != 0 {
			t.Errorf("in %v are %v", r, got)
		}
	}
	for _, r := range []api.Role{role("X1", "r"), role("E", "t"), role("D", "s"), role("A", "t")} {
		if got := high.Members(p, r); !slices.Equal(got, []string{"A", "B", "C", "D", "E", "X1"}) {
			t.Errorf("in %v are %v", r, got)
		}
	}
}

// full is a policy that has as much as there may be: some roles may not grow.
func full() api.Policy {
	var prins, links []string
	for i := range api.MaxPrins {
		prins = append(prins, string(rune('A'+i)))
	}
	for i := range api.MaxLinks {
		links = append(links, string(rune('a'+i)))
	}
	p := api.Policy{Asks: []api.Query{{Kind: api.AskHas, A: role("A", "a"), Who: prins[:12]}, {Kind: api.AskHas, A: role("A", "a"), Who: prins[12:]}}}
	for _, name := range links {
		p.Stmts = append(p.Stmts, plain.Link(role("A", name), role("B", name), name))
		p.Grow = append(p.Grow, role("A", name), role("C", name), role("D", name))
	}
	p.Stmts = append(p.Stmts, plain.Member(role("C", "a"), "D"), plain.Incl(role("D", "a"), role("C", "a")))
	d := plain.Dice(17)
	for len(syn.Sort(p.Stmts...)) < api.MaxStmts {
		p.Stmts = append(p.Stmts, plain.Incl(role("E", links[d.Below(12)]), role(prins[d.Below(16)], links[d.Below(12)])))
	}
	return policy.Normal(p)
}

// TestP12_1Full: as many principals, names and statements as there may be.
func TestP12_1Full(t *testing.T) {
	p := full()
	p.Grow = p.Grow[:api.MaxRoles-4]
	if !policy.Right(p) || len(p.Stmts) != api.MaxStmts || len(policy.Prins(p)) != api.MaxPrins || len(policy.Names(p)) != api.MaxLinks {
		t.Fatal(policy.Right(p), len(p.Stmts), len(policy.Prins(p)), len(policy.Names(p)))
	}
	roles, l := high.Roles(p), high.Maximal(p)
	if len(roles) != 17*12-36 || !slices.Equal(l, plain.Greatest(p, high.Fresh(p))) || !state.Reaches(p, l) {
		t.Error(len(roles), len(l))
	}
	if _, m := high.Eval(p); m.Steps() > sem.Bound(17, 12, len(l)) || m.Steps() < int64(len(l)) {
		t.Error(m.Steps(), "steps")
	}
	if got := high.Members(p, role("D", "a")); !slices.Equal(got, []string{"D"}) {
		t.Error("in D.a are", got)
	}
	if got := high.Members(p, role("X1", "l")); len(got) != 17 {
		t.Error("in X1.l are", got)
	}
}

// TestP12_2: a policy reaches the greatest state.
func TestP12_2(t *testing.T) {
	d := plain.Dice(122)
	for range 500 {
		p := drawn(&d)
		if l := high.Maximal(p); !state.Is(l) || !state.Reaches(p, l) || len(state.Minus(p.Stmts, l)) != 0 {
			t.Fatalf("%v doesn't reach %v", p, l)
		}
	}
}

// within says whether who is in roles by m may be there by p's Members.
func within(p api.Policy, m plain.In, members map[api.Role][]string) (api.Role, string, bool) {
	prins, links := policy.Prins(p), policy.Names(p)
	for r := range m {
		if !slices.Contains(prins, r.Owner) || !slices.Contains(links, r.Name) {
			continue
		}
		for who := range m[r] {
			as := who
			if !slices.Contains(prins, who) {
				as = high.Fresh(p)
			}
			if !slices.Contains(members[r], as) {
				return r, who, false
			}
		}
	}
	return api.Role{}, "", true
}

// membersOf are the Members of all roles of a principal and a name that p has.
func membersOf(p api.Policy) map[api.Role][]string {
	all := map[api.Role][]string{}
	for _, owner := range policy.Prins(p) {
		for _, name := range policy.Names(p) {
			all[role(owner, name)] = high.Members(p, role(owner, name))
		}
	}
	return all
}

// TestP12_3: whichever state is reached, nobody is in a role who isn't of its Members, strangers standing as the fresh one.
func TestP12_3(t *testing.T) {
	d := plain.Dice(123)
	for range 300 {
		p := drawn(&d)
		all := membersOf(p)
		for range 6 {
			c := d.Reached(p)
			if !state.Reaches(p, c) {
				t.Fatalf("%v doesn't reach %v", p, c)
			}
			if r, who, ok := within(p, plain.Least(c), all); !ok {
				t.Fatalf("%v, %v: %s is in %v", p, c, who, r)
			}
		}
	}
}

// TestP12_3Each: all states with two principals, a stranger and one name; and nobody is of Members who is in none of them.
func TestP12_3Each(t *testing.T) {
	prins := []string{"A", "B", "Y"}
	var may []api.Stmt
	for _, owner := range prins {
		for _, who := range prins {
			may = append(may, plain.Member(role(owner, "r"), who))
		}
	}
	for _, text := range []string{
		"A.r <- B; grow A.r", "A.r <- B.r; grow A.r; shrink A.r", "A.r <- B.r.r; grow A.r", "A.r <- B.r.r; grow A.r; grow B.r; B.r <- A", "A.r <- A.r & B.r; grow A.r",
		"A.r <- B.r.r; B.r <- A; grow A.r; grow B.r; shrink B.r", "A.r <- A.r.r; A.r <- B; grow A.r; shrink A.r", "B.r <- A.r.r; A.r <- B; grow B.r", "grow A.r; grow B.r; A.r <- B.r",
	} {
		p := plain.Policy(text)
		all, seen := membersOf(p), plain.In{}
		for bits := range 1 << len(may) {
			c := slices.Clone(p.Stmts)
			for i, s := range may {
				if bits>>i&1 == 1 && !slices.Contains(p.Grow, s.Head) {
					c = append(c, s)
				}
			}
			m := plain.Least(c)
			if r, who, ok := within(p, m, all); !ok {
				t.Fatalf("%s, %v: %s is in %v", text, c, who, r)
			}
			for r := range m {
				for who := range m[r] {
					if seen[r] == nil {
						seen[r] = map[string]struct{}{}
					}
					seen[r][strings.ReplaceAll(who, "Y", "X1")] = struct{}{}
				}
			}
		}
		for r, l := range all {
			if !slices.Equal(l, seen.Of(r)) {
				t.Errorf("%s: in %v may be %v, not %v", text, r, seen.Of(r), l)
			}
		}
	}
}

// TestWrong: of policies that aren't right nothing is promised, but that each call ends.
func TestWrong(t *testing.T) {
	many := api.Policy{Grow: []api.Role{ar}}
	for i := range 1500 {
		name := strings.Repeat("x", i)
		many.Stmts = append(many.Stmts, plain.Member(role("P"+name, name), "Q"+name), plain.Link(ar, role("P"+name, name), "y"+name))
	}
	for _, p := range []api.Policy{
		{Stmts: []api.Stmt{{}, {Kind: math.MinInt, Head: ar}, {Kind: 5, Head: ar}, plain.Member(ar, ""), plain.Both(ar, bs, as), {Kind: api.Both, Head: ar, A: bs, B: as}}, Grow: []api.Role{ar, {}, ar}},
		{Stmts: []api.Stmt{plain.Member(bs, "C"), plain.Incl(ar, bs), plain.Member(bs, "C")}, Grow: []api.Role{{}, {Owner: "\xff"}}, Shrink: []api.Role{bs, ar}},
		{Asks: []api.Query{{}, {Kind: 99, Who: []string{"", "b"}}}, Shrink: []api.Role{{}}},
		many,
	} {
		high.Roles(p)
		high.Maximal(p)
		high.Steps(p)
		if high.Fresh(p) != "X1" {
			t.Error("fresh is", high.Fresh(p))
		}
		if l, m := high.Eval(p); l == nil || m == nil {
			t.Errorf("no table, or no model")
		}
		for _, r := range []api.Role{ar, bs, {}, role("P", ""), role("Px", "x")} {
			high.Members(p, r)
		}
	}
}

// TestApart: what is handed in isn't changed, its spare room included, nor kept, and each answer is new memory.
func TestApart(t *testing.T) {
	p := plain.Policy("A.r <- B; A.r <- B.s; A.s <- C; B.s <- C; grow A.r; grow B.s; shrink B.s; always A.r has B")
	stmts := append(slices.Clone(p.Stmts), plain.Member(cr, "Spare"), plain.Member(cs, "Room"))
	roles := append(slices.Clone(p.Grow), br, role("Spare", "r"))
	p.Stmts, p.Grow = stmts[:len(p.Stmts)], roles[:len(p.Grow)]
	was, wasRoles := slices.Clone(stmts), slices.Clone(roles)
	first, firstRoles := high.Maximal(p), high.Roles(p)
	want, wantRoles := slices.Clone(first), slices.Clone(firstRoles)
	_, m := high.Eval(p)
	got := high.Members(p, ar)
	high.Fresh(p)
	if high.Steps(p); !slices.Equal(stmts, was) || !slices.Equal(roles, wasRoles) {
		t.Fatal("what was handed in isn't as it was")
	}
	again, againRoles := high.Maximal(p), high.Roles(p)
	again, againRoles = again[:cap(again)], againRoles[:cap(againRoles)]
	for i := range again {
		again[i] = api.Stmt{Who: "changed"}
	}
	for i := range againRoles {
		againRoles[i] = role("Changed", "r")
	}
	if !slices.Equal(stmts, was) || !slices.Equal(roles, wasRoles) || !slices.Equal(first, want) || !slices.Equal(firstRoles, wantRoles) {
		t.Error("an answer is not new memory")
	}
	clear(stmts)
	clear(roles)
	if !slices.Equal(first, want) || !slices.Equal(firstRoles, wantRoles) || !slices.Equal(got, []string{"B", "C"}) || !slices.Equal(m.Members(0), []int{1, 2}) {
		t.Error("what was handed in is kept:", first, got, m.Members(0))
	}
}
