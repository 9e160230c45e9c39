package simple_test

import (
	"math"
	"slices"
	"strings"
	"testing"

	"crupper/api"
	"crupper/high"
	"crupper/low"
	"crupper/plain"
	"crupper/policy"
	"crupper/query"
	"crupper/simple"
	"crupper/state"
)

// Roles of A and B.
var (
	ar = role("A", "r")
	br = role("B", "r")
)

func role(owner, name string) api.Role { return plain.Role(owner, name) }

// drawnSimple draws one that isn't of one role in another one.
func drawnSimple(d *plain.Dice, prins, links []string) api.Query {
	for {
		if q := d.Query(prins, links); q.Kind != api.AskIn {
			return q
		}
	}
}

// samePolicy: are all their fields the same ones?
func samePolicy(a, b api.Policy) bool {
	return slices.Equal(a.Stmts, b.Stmts) && slices.Equal(a.Grow, b.Grow) && slices.Equal(a.Shrink, b.Shrink) &&
		slices.EqualFunc(a.Asks, b.Asks, func(x, y api.Query) bool {
			return x.Kind == y.Kind && x.A == y.A && x.B == y.B && slices.Equal(x.Who, y.Who)
		})
}

func TestP13_1Only(t *testing.T) {
	d := plain.Dice(131)
	for range 300 {
		p := d.Policy([]string{"A", "B", "C"}, []string{"r", "s"})
		q := d.Query([]string{"A", "B", "C", "D"}, []string{"r", "s", "t"})
		for range d.Below(3) {
			p.Asks = append(p.Asks, d.Query([]string{"A", "E"}, []string{"r", "u"}))
		}
		if got, want := simple.Only(p, q), (api.Policy{Stmts: p.Stmts, Grow: p.Grow, Shrink: p.Shrink, Asks: []api.Query{q}}); !samePolicy(got, want) {
			t.Fatalf("of %v with %v it made %v", p, q, got)
		}
	}
}

// TestP13_1OnlyWrong: what isn't right stays as it stands.
func TestP13_1OnlyWrong(t *testing.T) {
	p := api.Policy{
		Stmts:  []api.Stmt{{Kind: 9}, plain.Member(br, "A"), plain.Member(ar, ""), plain.Member(br, "A"), {Kind: api.Both, Head: ar, A: br, B: ar}},
		Grow:   []api.Role{br, {}, ar, br},
		Shrink: []api.Role{{}, ar, ar},
		Asks:   []api.Query{{Kind: api.AskEmpty, A: ar}, {}},
	}
	for _, q := range []api.Query{{}, {Kind: 7, A: br, B: ar, Who: []string{"b", "", "A", "A"}}, plain.Ask("can A.r be empty")} {
		if got, want := simple.Only(p, q), (api.Policy{Stmts: p.Stmts, Grow: p.Grow, Shrink: p.Shrink, Asks: []api.Query{q}}); !samePolicy(got, want) {
			t.Errorf("of %v with %v it made %v", p, q, got)
		}
	}
	if got := simple.Only(api.Policy{}, api.Query{}); len(got.Stmts)+len(got.Grow)+len(got.Shrink) != 0 || len(got.Asks) != 1 || !query.Same(got.Asks[0], api.Query{}) {
		t.Error("of nothing it made", got)
	}
}

func TestP13_1Is(t *testing.T) {
	for line, is := range map[string]bool{
		"always A.r has B": true, "always A.r has B C": true, "can A.r have A": true, "always A.r within": true, "always A.r within B": true,
		"can A.r be empty": true, "always A.r apart B.s": true, "always A.r apart A.r": true, "always A.r in B.s": false, "always A.r in A.r": false,
	} {
		if simple.Is(plain.Ask(line)) != is {
			t.Errorf("%s: it is %v", line, !is)
		}
	}
	for i, q := range wrongQueries() {
		if simple.Is(q) {
			t.Errorf("query %d is wrong, and taken: %v", i, q)
		}
	}
}

// wrongQueries are some that aren't right.
func wrongQueries() []api.Query {
	var many []string
	for i := range api.MaxWho + 1 {
		many = append(many, string(rune('A'+i)))
	}
	return []api.Query{
		{},
		{A: ar},
		{Kind: -1, A: ar}, {Kind: 7, A: ar}, {Kind: 7, A: ar, B: br}, {Kind: math.MinInt, A: ar}, {Kind: math.MaxInt, A: ar, Who: []string{"B"}},
		{Kind: api.AskHas, A: ar}, {Kind: api.AskMay, A: ar},
		{Kind: api.AskHas, Who: []string{"B"}}, {Kind: api.AskMay, A: role("a", "r"), Who: []string{"B"}}, {Kind: api.AskWithin, A: role("A", ""), Who: []string{"B"}},
		{Kind: api.AskHas, A: ar, B: br, Who: []string{"B"}}, {Kind: api.AskMay, A: ar, B: br, Who: []string{"B"}}, {Kind: api.AskWithin, A: ar, B: br},
		{Kind: api.AskHas, A: ar, Who: []string{"C", "B"}}, {Kind: api.AskMay, A: ar, Who: []string{"B", "B"}}, {Kind: api.AskWithin, A: ar, Who: []string{"b"}}, {Kind: api.AskWithin, A: ar, Who: []string{""}},
		{Kind: api.AskHas, A: ar, Who: many}, {Kind: api.AskMay, A: ar, Who: many}, {Kind: api.AskWithin, A: ar, Who: many},
		{Kind: api.AskEmpty}, {Kind: api.AskEmpty, A: ar, B: br}, {Kind: api.AskEmpty, A: ar, Who: []string{"B"}},
		{Kind: api.AskApart, A: ar}, {Kind: api.AskApart, B: ar}, {Kind: api.AskApart, A: ar, B: br, Who: []string{"B"}}, {Kind: api.AskApart, A: ar, B: role("B", "R")},
		{Kind: api.AskIn, A: ar}, {Kind: api.AskIn, A: ar, B: br, Who: []string{"B"}},
	}
}

// subset are those of l whose bits are set.
func subset(l []string, bits int) []string {
	var some []string
	for i, s := range l {
		if bits>>i&1 == 1 {
			some = append(some, s)
		}
	}
	return some
}

// TestP13_1Satisfies: all kinds, and some that are none, with all sets of three in A, in B, and asked about.
func TestP13_1Satisfies(t *testing.T) {
	prins := []string{"A", "B", "C"}
	for bits := range 1 << 9 {
		a, b, who := subset(prins, bits&7), subset(prins, bits>>3&7), subset(prins, bits>>6)
		members := func(r api.Role) []string {
			switch r {
			case ar:
				return a
			case br:
				return b
			}
			t.Fatal("it asks about", r)
			return nil
		}
		for kind := -1; kind <= 8; kind++ {
			q := api.Query{Kind: kind, A: ar, B: br, Who: who}
			if got := simple.Satisfies(members, q); got != plain.Satisfied(q, a, b) {
				t.Fatalf("%v, with %v and %v: %v", q, a, b, got)
			}
		}
	}
}

// TestP13_1SatisfiesTold: of each kind some that are satisfied, and some that aren't, said by hand.
func TestP13_1SatisfiesTold(t *testing.T) {
	m := plain.Least(plain.Policy("A.r <- B; A.r <- C; B.r <- C; C.r <- D").Stmts)
	for line, is := range map[string]bool{
		"always A.r has B": true, "always A.r has B C": true, "always A.r has B C D": false, "always A.r has D": false, "always D.r has D": false,
		"can A.r have C": true, "can A.r have A C": false, "can B.r have C": true, "can B.s have C": false,
		"always A.r within B C": true, "always A.r within A B C D": true, "always A.r within B": false, "always A.r within": false, "always D.r within": true, "always D.r within A": true,
		"can A.r be empty": false, "can D.r be empty": true,
		"always A.r apart B.r": false, "always A.r apart C.r": true, "always A.r apart D.r": true, "always D.r apart A.r": true, "always D.r apart D.r": true, "always A.r apart A.r": false,
		"always A.r in B.r": false, "always B.r in A.r": true, "always A.r in A.r": true, "always D.r in A.r": true, "always A.r in D.r": false, "always C.r in B.r": false,
	} {
		if simple.Satisfies(m.Of, plain.Ask(line)) != is { // a method's value
			t.Errorf("%s: it is %v", line, !is)
		}
	}
}

// TestP13_1SatisfiesWrong: members in any order, more than once, that are no names; who is asked about likewise; and nothing that tells.
func TestP13_1SatisfiesWrong(t *testing.T) {
	telling := func(l ...string) func(api.Role) []string { return func(api.Role) []string { return l } }
	for i, c := range []struct {
		members func(api.Role) []string
		q       api.Query
		is      bool
	}{
		{telling("C", "", "A", "C"), api.Query{Kind: api.AskHas, Who: []string{"C", "A", "", "A"}}, true},
		{telling("C", "", "A", "C"), api.Query{Kind: api.AskMay, Who: []string{"C", "B", "A"}}, false},
		{telling("C", "", "A", "C"), api.Query{Kind: api.AskWithin, Who: []string{"x", "C", "A", ""}}, true},
		{telling("C", "", "A", "C"), api.Query{Kind: api.AskWithin, Who: []string{"C", "A"}}, false},
		{telling(""), api.Query{Kind: api.AskEmpty}, false},
		{telling(), api.Query{Kind: api.AskHas}, true},
		{telling("B"), api.Query{Kind: api.AskHas}, true},
		{telling([]string{}...), api.Query{Kind: api.AskEmpty, Who: []string{"B"}}, true},
		{telling("B"), api.Query{Kind: api.AskApart}, false},
		{telling("B"), api.Query{Kind: api.AskIn}, true},
		{telling("B"), api.Query{Who: []string{"B"}}, false},
		{telling(), api.Query{Kind: 7}, false},
		{nil, api.Query{Kind: api.AskHas, Who: []string{"B"}}, false},
		{nil, api.Query{Kind: api.AskWithin}, true},
		{nil, api.Query{Kind: api.AskEmpty}, true},
		{nil, api.Query{Kind: api.AskApart}, true},
		{nil, api.Query{}, false},
	} {
		if got := simple.Satisfies(c.members, c.q); got != c.is {
			t.Errorf("case %d, %v: %v", i, c.q, got)
		}
	}
}

// told are policies with one query, and the verdict on it.
var told = []struct {
	text string
	kind int
}{
	{"A.r <- B; shrink A.r; always A.r has B", api.Holds},
	{"A.r <- B; always A.r has B", api.Fails},
	{"A.r <- B; grow A.r; always A.r has B", api.Fails},
	{"A.r <- B; shrink A.r; always A.r has B C", api.Fails},
	{"A.r <- B.s; B.s <- C; shrink A.r; shrink B.s; always A.r has C", api.Holds},
	{"A.r <- B.s; B.s <- C; shrink A.r; always A.r has C", api.Fails},
	{"A.r <- B.s.t; B.s <- C; C.t <- D; shrink A.r; shrink B.s; shrink C.t; always A.r has D", api.Holds},
	{"A.r <- B.s & C.t; B.s <- D; C.t <- D; shrink A.r; shrink B.s; shrink C.t; always A.r has D", api.Holds},
	{"always A.r has A", api.Fails},

	{"A.r <- B; can A.r have B C", api.Yes},
	{"A.r <- B; grow A.r; can A.r have B", api.Yes},
	{"A.r <- B; grow A.r; can A.r have B C", api.No},
	{"A.r <- B.s; grow A.r; can A.r have C", api.Yes},
	{"A.r <- B.s; grow A.r; grow B.s; can A.r have C", api.No},
	{"A.r <- B.s.t; grow A.r; grow B.s; B.s <- C; can A.r have D", api.Yes},
	{"A.r <- B.s.t; grow A.r; grow B.s; can A.r have D", api.No},
	{"can A.r have A B C D E F", api.Yes},
	{"grow A.r; can A.r have A", api.No},

	{"A.r <- B; grow A.r; always A.r within B", api.Holds},
	{"A.r <- B; grow A.r; always A.r within B C", api.Holds},
	{"A.r <- B; grow A.r; always A.r within C", api.Fails},
	{"A.r <- B; always A.r within B", api.Fails},
	{"A.r <- B.s; grow A.r; always A.r within C", api.Fails},
	{"A.r <- B.s; grow A.r; grow B.s; always A.r within", api.Holds},
	{"A.r <- B; grow A.r; always A.r within", api.Fails},
	{"grow A.r; always A.r within", api.Holds},
	{"always A.r within A B C", api.Fails},

	{"A.r <- B; can A.r be empty", api.Yes},
	{"A.r <- B; shrink A.r; can A.r be empty", api.No},
	{"A.r <- B.s; B.s <- C; shrink A.r; can A.r be empty", api.Yes},
	{"A.r <- B.s; B.s <- C; shrink A.r; shrink B.s; can A.r be empty", api.No},
	{"can A.r be empty", api.Yes},

	{"A.r <- B; B.s <- C; grow A.r; grow B.s; always A.r apart B.s", api.Holds},
	{"A.r <- B; B.s <- B; grow A.r; grow B.s; always A.r apart B.s", api.Fails},
	{"A.r <- B; B.s <- C; grow A.r; always A.r apart B.s", api.Fails},
	{"A.r <- C.t; B.s <- C.t; grow A.r; grow B.s; always A.r apart B.s", api.Fails},
	{"A.r <- C.t; B.s <- C.t; C.t <- D; grow A.r; grow B.s; grow C.t; always A.r apart B.s", api.Fails},
	{"A.r <- C.t; B.s <- C.t; grow A.r; grow B.s; grow C.t; always A.r apart B.s", api.Holds},
	{"grow A.r; always A.r apart B.s", api.Holds},
	{"grow B.s; always A.r apart B.s", api.Holds},
	{"grow A.r; always A.r apart A.r", api.Holds},
	{"always A.r apart A.r", api.Fails},
}

// verdict is the one that the chapter's words ask for, of a policy with its only query.
func verdict(p api.Policy, q api.Query) api.Verdict {
	l, steps, yes, no := plain.Kept(p), low.Steps(p), api.Holds, api.Fails
	switch q.Kind {
	case api.AskMay, api.AskWithin, api.AskApart:
		l, steps = plain.Greatest(p, high.Fresh(p)), high.Steps(p)
	}
	switch q.Kind {
	case api.AskMay, api.AskEmpty:
		yes, no = api.Yes, api.No
	}
	v := api.Verdict{Kind: no, Steps: steps}
	if plain.IsSo(l, q) {
		v.Kind = yes
	}
	if v.Kind == api.Fails || v.Kind == api.Yes {
		v.State = l
	}
	return v
}

// sameVerdict: are all their fields the same ones?
func sameVerdict(a, b api.Verdict) bool {
	return a.Kind == b.Kind && slices.Equal(a.State, b.State) && a.Steps == b.Steps && a.Nodes == b.Nodes
}

func TestP13_2Told(t *testing.T) {
	for _, c := range told {
		p := plain.Policy(c.text)
		v, why := simple.Decide(p, p.Asks[0])
		if why != api.OK || v.Kind != c.kind {
			t.Errorf("%s: %v, error %v", c.text, v, why)
		}
		if want := verdict(p, p.Asks[0]); !sameVerdict(v, want) {
			t.Errorf("%s: %v, not %v", c.text, v, want)
		}
	}
}

// TestP13_2State: the states of some, said by hand.
func TestP13_2State(t *testing.T) {
	for text, stmts := range map[string]string{
		"A.r <- B; A.s <- A.r; shrink A.s; always A.r has B":   "A.s <- A.r",
		"A.r <- B; A.s <- A.r; shrink A.s; can A.s be empty":   "A.s <- A.r",
		"A.r <- B; A.s <- A.r; grow A.s; can A.s have A":       "A.r <- A; A.r <- B; A.r <- X1; B.r <- A; B.r <- B; B.r <- X1; B.s <- A; B.s <- B; B.s <- X1; X1.r <- A; X1.r <- B; X1.r <- X1; X1.s <- A; X1.s <- B; X1.s <- X1; A.s <- A.r",
		"A.r <- B; grow A.r; shrink A.r; always A.r within":    "A.r <- B; B.r <- A; B.r <- B; B.r <- X1; X1.r <- A; X1.r <- B; X1.r <- X1",
		"A.r <- A; A.r <- C; C.r <- B; always A.r has B":       "",
		"grow X1.r; grow A.r; always X2.r apart X2.r":          "X2.r <- A; X2.r <- X1; X2.r <- X2; X2.r <- X3; X3.r <- A; X3.r <- X1; X3.r <- X2; X3.r <- X3",
		"grow A.r; always A.s within A":                        "A.s <- A; A.s <- X1; X1.r <- A; X1.r <- X1; X1.s <- A; X1.s <- X1",
		"A.r <- B; shrink A.r; always A.r has B":               "",
		"A.r <- B; grow A.r; grow B.r; always A.r apart B.r":   "",
		"A.r <- B; shrink A.r; grow A.r; always A.r within B":  "",
		"A.r <- B; shrink A.r; grow A.r; can A.r be empty":     "",
		"A.r <- B; shrink A.r; grow A.r; can A.r have B Other": "",
	} {
		p := plain.Policy(text)
		want := plain.Policy(stmts).Stmts
		if v, why := simple.Decide(p, p.Asks[0]); why != api.OK || !slices.Equal(v.State, want) {
			t.Errorf("%s: %v, error %v", text, v, why)
		}
	}
}

// TestP13_2Drawn: verdicts by the chapter's words, with queries about others, and with p's own beside.
func TestP13_2Drawn(t *testing.T) {
	d := plain.Dice(132)
	var counts [api.Spent + 1]int
	for range 900 {
		p := d.Policy([]string{"A", "B", "C"}, []string{"r", "s"})
		q := drawnSimple(&d, []string{"A", "B", "C", "D"}, []string{"r", "s", "t"})
		v, why := simple.Decide(p, q)
		if want := verdict(simple.Only(p, q), q); why != api.OK || !sameVerdict(v, want) {
			t.Fatalf("%v, %v: %v, error %v, not %v", p, q, v, why, want)
		}
		counts[v.Kind]++
	}
	if slices.Min(counts[api.Holds:api.Spent]) < 20 {
		t.Error("some verdicts are rare:", counts)
	}
}

// TestP13_2Steps: they are those of one call, of the least state or of the greatest one, and of what the query names, too.
func TestP13_2Steps(t *testing.T) {
	p := plain.Policy("A.r <- B; A.r <- C; A.s <- A.r; B.s <- A.r & A.s; shrink A.r; grow A.s; always D.u has E")
	for _, line := range []string{"always A.r has B", "always A.r has B C D", "can A.s be empty", "can A.r be empty", "always A.r has F"} {
		q := plain.Ask(line)
		if v, _ := simple.Decide(p, q); v.Steps != low.Steps(simple.Only(p, q)) || v.Steps == 0 {
			t.Errorf("%s: %d steps", line, v.Steps)
		}
	}
	for _, line := range []string{"can A.r have B", "always A.r within B", "always A.r apart A.s", "always A.r apart F.t", "can A.s have F"} {
		q := plain.Ask(line)
		if v, _ := simple.Decide(p, q); v.Steps != high.Steps(simple.Only(p, q)) || v.Steps == 0 {
			t.Errorf("%s: %d steps", line, v.Steps)
		}
	}
}

// TestP13_2Others: p's own queries change nothing: neither whom it names, nor if they are wrong, or too many.
func TestP13_2Others(t *testing.T) {
	p := plain.Policy("A.r <- B.s; B.s <- C; grow A.r; shrink B.s")
	lines := []string{"always A.r has C", "can A.r have C", "always A.r within C", "can A.r be empty", "always A.r apart B.s"}
	for _, others := range [][]api.Query{
		{plain.Ask("always X1.t has X2 X3")}, wrongQueries(), {plain.Ask("always A.r in B.s")}, slices.Repeat([]api.Query{plain.Ask("can A.r be empty")}, api.MaxAsks),
	} {
		more := p
		more.Asks = others
		for _, line := range lines {
			want, _ := simple.Decide(p, plain.Ask(line))
			if got, why := simple.Decide(more, plain.Ask(line)); why != api.OK || !sameVerdict(got, want) {
				t.Errorf("%s: with others %v, error %v, not %v", line, got, why, want)
			}
		}
	}
}

// TestP13_2Wrong: a query that isn't right, or of one role in another one, and a policy that isn't right with it.
func TestP13_2Wrong(t *testing.T) {
	right, easy := plain.Policy("A.r <- B; A.r <- B.s & C.t; grow A.r; shrink A.r"), plain.Ask("can A.r be empty")
	for _, q := range append(wrongQueries(), plain.Ask("always A.r in B.s"), plain.Ask("always A.r in A.r")) {
		if v, why := simple.Decide(right, q); why != api.ErrArg || !sameVerdict(v, api.Verdict{}) {
			t.Errorf("%v: %v, error %v", q, v, why)
		}
	}
	b, c := plain.Member(ar, "B"), plain.Member(ar, "C")
	for i, p := range []api.Policy{
		{Stmts: []api.Stmt{{}}},
		{Stmts: []api.Stmt{c, b}},
		{Stmts: []api.Stmt{b, b}},
		{Stmts: []api.Stmt{plain.Member(ar, "b")}},
		{Stmts: []api.Stmt{{Kind: api.Both, Head: ar, A: br, B: ar}}},
		{Stmts: []api.Stmt{{Kind: api.Member, Head: ar, Who: "B", Via: "x"}}},
		{Grow: []api.Role{br, ar}},
		{Grow: []api.Role{{}}},
		{Shrink: []api.Role{ar, ar}},
		{Shrink: []api.Role{role("A", "R")}},
	} {
		if v, why := simple.Decide(p, easy); why != api.ErrArg || !sameVerdict(v, api.Verdict{}) {
			t.Errorf("policy %d: %v, error %v", i, v, why)
		}
	}
}

// prins are n principals; links are n names.
func prins(n int) []string {
	var l []string
	for i := range n {
		l = append(l, string(rune('A'+i)))
	}
	return l
}

func links(n int) []string {
	var l []string
	for i := range n {
		l = append(l, string(rune('a'+i)))
	}
	return l
}

// TestP13_2Limits: as much as there may be with the query, and one more.
func TestP13_2Limits(t *testing.T) {
	var p api.Policy
	for _, who := range prins(api.MaxPrins) {
		p.Stmts = append(p.Stmts, plain.Member(role("A", "a"), who))
	}
	for _, name := range links(api.MaxLinks - 1) {
		p.Grow = append(p.Grow, role("A", name))
	}
	for q, want := range map[string]api.Errno{
		"can A.a be empty": api.OK, "can P.l be empty": api.OK, "can Q.a be empty": api.ErrArg, "always A.a within Q": api.ErrArg, "can A.a have A Q": api.ErrArg,
		"always A.a apart P.l": api.OK, "always A.l apart A.m": api.ErrArg, "always A.a apart Q.a": api.ErrArg, "can A.zz be empty": api.OK,
	} {
		if v, why := simple.Decide(p, plain.Ask(q)); why != want || (v.Kind == 0) != (why == api.ErrArg) {
			t.Errorf("%s: %v, error %v", q, v.Kind, why)
		}
	}
	for n, want := range map[int]api.Errno{api.MaxStmts: api.OK, api.MaxStmts + 1: api.ErrArg} {
		var stmts []api.Stmt
		for i := range n {
			stmts = append(stmts, plain.Member(role(prins(16)[i/16], "r"), prins(16)[i%16]))
		}
		v, why := simple.Decide(api.Policy{Stmts: stmts}, plain.Ask("always A.r apart B.r"))
		if why != want || why == api.OK && (v.Kind != api.Fails || len(v.State) != 17*17) {
			t.Errorf("%d statements: error %v, %d in the state", n, why, len(v.State))
		}
	}
	for n, want := range map[int]api.Errno{api.MaxRoles: api.OK, api.MaxRoles + 1: api.ErrArg} {
		var rows []api.Role
		for i := range n {
			rows = append(rows, role(prins(16)[i/4], links(4)[i%4]))
		}
		if v, why := simple.Decide(api.Policy{Grow: rows}, plain.Ask("always A.a within")); why != want || (v.Kind == api.Holds) != (why == api.OK) {
			t.Errorf("%d roles that may not grow: %v, error %v", n, v.Kind, why)
		}
		if v, why := simple.Decide(api.Policy{Shrink: rows}, plain.Ask("can A.a be empty")); why != want || (v.Kind == api.Yes) != (why == api.OK) {
			t.Errorf("%d roles that may not shrink: %v, error %v", n, v.Kind, why)
		}
	}
}

func TestP13_2Holds(t *testing.T) {
	for kind := -2; kind <= 8; kind++ {
		for _, v := range []api.Verdict{{Kind: kind}, {Kind: kind, State: []api.Stmt{plain.Member(ar, "B")}, Steps: 3, Nodes: -1}} {
			if simple.Holds(v) != (kind == 1 || kind == 3) {
				t.Errorf("%v: it is %v", v, simple.Holds(v))
			}
		}
	}
	if simple.Holds(api.Verdict{Kind: math.MaxInt}) || simple.Holds(api.Verdict{Kind: math.MinInt + 1}) {
		t.Error("no kind holds")
	}
}

// fits says whether the verdict is so of a state that is reached.
func fits(v api.Verdict, so bool) bool {
	switch v.Kind {
	case api.Holds:
		return so
	case api.No:
		return !so
	}
	return true
}

// shows says whether the verdict's state is reached, and shows it, or there is none and nothing is to be shown.
func shows(p api.Policy, q api.Query, v api.Verdict) bool {
	switch v.Kind {
	case api.Fails:
		return state.Is(v.State) && state.Reaches(p, v.State) && !plain.IsSo(v.State, q)
	case api.Yes:
		return state.Is(v.State) && state.Reaches(p, v.State) && plain.IsSo(v.State, q)
	}
	return len(v.State) == 0
}

// TestP13_3: drawn states that are reached, with strangers and names that the policy doesn't have.
func TestP13_3(t *testing.T) {
	d := plain.Dice(133)
	for range 700 {
		p := d.Policy([]string{"A", "B", "C"}, []string{"r", "s"})
		q := drawnSimple(&d, []string{"A", "B", "C"}, []string{"r", "s"})
		v, why := simple.Decide(p, q)
		if why != api.OK || !shows(p, q, v) {
			t.Fatalf("%v, %v: %v, error %v", p, q, v, why)
		}
		for range 8 {
			if c := d.Reached(p); !fits(v, plain.IsSo(c, q)) {
				t.Fatalf("%v, %v: %v, but not in %v", p, q, v, c)
			}
		}
	}
}

// TestP13_3Each: all states with two principals, a stranger and one name: verdicts on all queries are those of all of them together.
func TestP13_3Each(t *testing.T) {
	var asks []api.Query
	for _, line := range []string{
		"always A.r has A", "always A.r has B", "always A.r has A B", "can A.r have A", "can A.r have B", "can A.r have A B", "can A.r be empty",
		"always A.r within", "always A.r within A", "always A.r within B", "always A.r within A B", "always A.r apart B.r", "always A.r apart A.r", "always B.r apart A.r",
	} {
		asks = append(asks, plain.Ask(line))
	}
	for _, text := range []string{
		"A.r <- B; B.r <- A", "A.r <- B; grow A.r", "A.r <- B; shrink A.r; grow A.r; grow B.r", "A.r <- B.r; grow A.r; shrink A.r", "A.r <- B.r.r; grow A.r; A.r <- B",
		"A.r <- B.r.r; grow A.r; grow B.r; B.r <- A; shrink B.r", "A.r <- A.r & B.r; A.r <- B; grow A.r", "A.r <- A.r.r; A.r <- B; grow A.r; shrink A.r; B.r <- A; grow B.r; shrink B.r",
		"A.r <- B; A.r <- A; B.r <- A.r; shrink A.r; shrink B.r; grow B.r",
	} {
		p := plain.Policy(text)
		so := counts(p, asks)
		for i, q := range asks {
			all, none := so[i][0] == 0, so[i][1] == 0
			want := api.Fails
			switch {
			case query.Universal(q.Kind) && all:
				want = api.Holds
			case !query.Universal(q.Kind) && none:
				want = api.No
			case !query.Universal(q.Kind):
				want = api.Yes
			}
			if v, why := simple.Decide(p, q); why != api.OK || v.Kind != want || !shows(p, q, v) {
				t.Errorf("%s: %s: %v, error %v, not %d", text, query.Print(q), v, why, want)
			}
		}
	}
}

// counts is for each query in how many states that p reaches it isn't so, and in how many it is.
func counts(p api.Policy, asks []api.Query) [][2]int {
	var may []api.Stmt // those that may come, or go
	var must []api.Stmt
	for _, owner := range []string{"A", "B", "Y"} {
		for _, who := range []string{"A", "B", "Y"} {
			if s := plain.Member(role(owner, "r"), who); !slices.Contains(p.Grow, s.Head) && !slices.Contains(p.Stmts, s) {
				may = append(may, s)
			}
		}
	}
	for _, s := range p.Stmts {
		if slices.Contains(p.Shrink, s.Head) {
			must = append(must, s)
		} else {
			may = append(may, s)
		}
	}
	so := make([][2]int, len(asks))
	for bits := range 1 << len(may) {
		c := slices.Clone(must)
		for i, s := range may {
			if bits>>i&1 == 1 {
				c = append(c, s)
			}
		}
		m := plain.Least(c)
		for i, q := range asks {
			if plain.Satisfied(q, m.Of(q.A), m.Of(q.B)) {
				so[i][1]++
			} else {
				so[i][0]++
			}
		}
	}
	return so
}

// TestP13_3Restricted: with more restrictions what held, or couldn't be, is so still.
func TestP13_3Restricted(t *testing.T) {
	d := plain.Dice(1333)
	for range 400 {
		p := d.Policy([]string{"A", "B", "C"}, []string{"r", "s"})
		q := drawnSimple(&d, []string{"A", "B", "C"}, []string{"r", "s"})
		v, _ := simple.Decide(p, q)
		more := p
		more.Grow = policy.SortRoles(append(slices.Clone(p.Grow), role("C", "s"), role("A", "r"))...)
		more.Shrink = policy.SortRoles(append(slices.Clone(p.Shrink), role("A", "s"), role("A", "r"))...)
		got, why := simple.Decide(more, q)
		if why != api.OK || (v.Kind == api.Holds || v.Kind == api.No) && got.Kind != v.Kind {
			t.Fatalf("%v, %v: %v, and bound %v", p, q, v, got)
		}
	}
}

// TestWrong: each call ends, whatever texts and numbers it is given.
func TestWrong(t *testing.T) {
	many := api.Policy{}
	for i := range 1500 {
		name := strings.Repeat("x", i)
		many.Stmts = append(many.Stmts, plain.Member(role("P"+name, name), "Q"+name))
		many.Grow = append(many.Grow, role("P"+name, name))
	}
	for _, p := range []api.Policy{many, {}, {Stmts: []api.Stmt{{Kind: math.MinInt, Who: "\xff"}}, Grow: []api.Role{{Owner: "\xff"}}}} {
		for _, q := range append(wrongQueries(), api.Query{Kind: api.AskHas, A: role("\xff", "\x00"), Who: []string{"\xff"}}) {
			if simple.Only(p, q); simple.Is(q) {
				t.Error("it is", q)
			}
			if v, why := simple.Decide(p, q); why != api.ErrArg || !sameVerdict(v, api.Verdict{}) {
				t.Errorf("%v: error %v", q, why)
			}
		}
	}
	q := plain.Ask("can A.r be empty")
	if v, why := simple.Decide(many, q); why != api.ErrArg || !sameVerdict(v, api.Verdict{}) {
		t.Error("many: error", why)
	}
	if v, why := simple.Decide(api.Policy{}, q); why != api.OK || v.Kind != api.Yes || len(v.State) != 0 {
		t.Error("nothing:", v, why)
	}
}

// TestApart: what is handed in isn't changed, its spare room included, nor kept, and each answer is new memory.
func TestApart(t *testing.T) {
	text := "A.r <- B; A.r <- C; B.s <- A.r; grow A.r; grow B.s; shrink B.s; "
	p, want := plain.Policy(text+"can A.s be empty"), plain.Policy(text+"always B.s within B C")
	stmts := append(slices.Clone(p.Stmts), plain.Member(br, "Spare"))
	grow := append(slices.Clone(p.Grow), role("Spare", "r"))
	shrink := append(slices.Clone(p.Shrink), role("Spare", "s"))
	who := []string{"B", "C", "Spare"}
	p.Stmts, p.Grow, p.Shrink = stmts[:len(p.Stmts)], grow[:len(p.Grow)], shrink[:len(p.Shrink)]
	q := api.Query{Kind: api.AskWithin, A: role("B", "s"), Who: who[:2]}
	was, asks := simple.Only(p, q), slices.Clone(p.Asks)
	v, _ := simple.Decide(p, plain.Ask("always A.r has B"))
	kept := slices.Clone(v.State)
	simple.Satisfies(func(api.Role) []string { return who[:2] }, q)
	if stmts[len(p.Stmts)].Who != "Spare" || grow[len(p.Grow)].Owner != "Spare" || shrink[len(p.Shrink)].Owner != "Spare" || who[2] != "Spare" || len(asks) != 1 || !query.Same(p.Asks[0], asks[0]) || !slices.Equal(who[:2], []string{"B", "C"}) {
		t.Fatal("what was handed in isn't as it was")
	}
	again := simple.Only(p, q)
	spoil(again)
	if !samePolicy(simple.Only(p, q), want) || !samePolicy(was, want) {
		t.Error("an answer is not new memory")
	}
	if other, _ := simple.Decide(p, plain.Ask("always A.r has B")); len(other.State) > 0 {
		clear(other.State[:cap(other.State)])
	}
	clear(stmts)
	clear(grow)
	clear(shrink)
	clear(who)
	if !samePolicy(was, want) || !slices.Equal(v.State, kept) || len(kept) != 1 {
		t.Error("what was handed in is kept:", was, v.State)
	}
}

// spoil writes over all of the policy's lists, their spare room included.
func spoil(p api.Policy) {
	clear(p.Stmts[:cap(p.Stmts)])
	clear(p.Grow[:cap(p.Grow)])
	clear(p.Shrink[:cap(p.Shrink)])
	for _, q := range p.Asks {
		clear(q.Who[:cap(q.Who)])
	}
	clear(p.Asks[:cap(p.Asks)])
}
