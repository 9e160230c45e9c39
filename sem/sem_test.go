package sem_test

import (
	"math"
	"slices"
	"testing"

	"crupper/api"
	"crupper/sem"
	"crupper/table"
)

func member(head, who int) api.Rule { return api.Rule{Kind: api.Member, Head: head, Who: who} }

func incl(head, a int) api.Rule { return api.Rule{Kind: api.Incl, Head: head, A: a} }

func link(head, a, via int) api.Rule {
	return api.Rule{Kind: api.Link, Head: head, A: a, Via: via}
}

func both(head, a, b int) api.Rule { return api.Rule{Kind: api.Both, Head: head, A: a, B: b} }

// dice draws numbers, the same ones each time.
type dice uint64

func (d *dice) below(n int) int {
	*d = *d*6364136223846793005 + 1442695040888963407
	return int(uint64(*d)>>33) % n
}

// rule draws one that is right, of so many principals and names; there is a role at least.
func (d *dice) rule(prins, links int) api.Rule {
	roles := prins * links
	head, a := d.below(roles), d.below(roles)
	switch d.below(5) {
	case 0, 1:
		return member(head, d.below(prins))
	case 2:
		return incl(head, a)
	case 3:
		return link(head, a, d.below(links))
	}
	return both(head, a, d.below(roles))
}

func (d *dice) rules(n, prins, links int) []api.Rule {
	var l []api.Rule
	for range n {
		l = append(l, d.rule(prins, links))
	}
	return l
}

// few are all rules that are right, of so many principals and names.
func few(prins, links int) []api.Rule {
	var l []api.Rule
	roles := prins * links
	for head := range roles {
		for who := range prins {
			l = append(l, member(head, who))
		}
		for a := range roles {
			l = append(l, incl(head, a))
			for via := range links {
				l = append(l, link(head, a, via))
			}
			for b := range roles {
				l = append(l, both(head, a, b))
			}
		}
	}
	return l
}

// in is who is in which role: role, then principal.
type in map[[2]int]bool

// holds says by the chapter's words whether a rule that is right holds in that.
func (m in) holds(prins, links int, r api.Rule) bool {
	for x := range prins {
		switch {
		case r.Kind == api.Member && x == r.Who && !m[[2]int{r.Head, x}],
			r.Kind == api.Incl && m[[2]int{r.A, x}] && !m[[2]int{r.Head, x}],
			r.Kind == api.Both && m[[2]int{r.A, x}] && m[[2]int{r.B, x}] && !m[[2]int{r.Head, x}]:
			return false
		}
		for y := range prins {
			if r.Kind == api.Link && m[[2]int{r.A, x}] && m[[2]int{x*links + r.Via, y}] && !m[[2]int{r.Head, y}] {
				return false
			}
		}
	}
	return true
}

// model is that model, of a number whose bits are the pairs.
func model(prins, links, bits int) in {
	m := in{}
	for role := range prins * links {
		for who := range prins {
			if bits>>(role*prins+who)&1 == 1 {
				m[[2]int{role, who}] = true
			}
		}
	}
	return m
}

// of is Eval's model of just who is in which role, each told by a Member.
func (m in) of(prins, links int) *sem.Model {
	var l []api.Rule
	for x, is := range m {
		if is {
			l = append(l, member(x[0], x[1]))
		}
	}
	return sem.Eval(prins, links, l...)
}

// least adds one after the other what some rule asks for, till all rules hold: who then is in is in every model in which they hold.
func least(prins, links int, rules []api.Rule) in {
	m := in{}
	for grown := true; grown; {
		grown = false
		for role := range prins * links {
			for who := range prins {
				if !m[[2]int{role, who}] && m.asked(prins, links, role, who, rules) {
					m[[2]int{role, who}], grown = true, true
				}
			}
		}
	}
	return m
}

// asked: does a rule ask for that one in that role, as matters are?
func (m in) asked(prins, links, role, who int, rules []api.Rule) bool {
	for _, r := range rules {
		if r.Head != role {
			continue
		}
		switch r.Kind {
		case api.Member:
			if r.Who == who {
				return true
			}
		case api.Incl:
			if m[[2]int{r.A, who}] {
				return true
			}
		case api.Both:
			if m[[2]int{r.A, who}] && m[[2]int{r.B, who}] {
				return true
			}
		case api.Link:
			for x := range prins {
				if m[[2]int{r.A, x}] && m[[2]int{x*links + r.Via, who}] {
					return true
				}
			}
		}
	}
	return false
}

// outside are places that there aren't, of so many.
func outside(n int) []int {
	return []int{math.MinInt, -4096, -n - 1, -1, n, n + 1, n + 64, 4096 + n, 1 << 32, math.MaxInt}
}

// has holds a model against all that is to be in it.
func has(t *testing.T, what string, m *sem.Model, prins, links int, want in) {
	t.Helper()
	for role := range prins * links {
		var all []int
		for who := range prins {
			if is := want[[2]int{role, who}]; m.In(role, who) != is {
				t.Errorf("%s: %d is in %d: %v", what, who, role, !is)
			} else if is {
				all = append(all, who)
			}
		}
		if got := m.Members(role); !slices.Equal(got, all) {
			t.Errorf("%s: in %d are %v, not %v", what, role, got, all)
		}
		for _, who := range outside(prins) {
			if m.In(role, who) {
				t.Errorf("%s: %d is in %d", what, who, role)
			}
		}
	}
	for _, role := range outside(prins * links) {
		if len(m.Members(role)) != 0 || m.In(role, 0) || m.In(role, -1) || m.In(role, prins-1) {
			t.Errorf("%s: there is a role %d", what, role)
		}
	}
}

// roles are rows of who is in a role, by the role's number.
func roles(rows map[int][]int) in {
	m := in{}
	for role, l := range rows {
		for _, who := range l {
			m[[2]int{role, who}] = true
		}
	}
	return m
}

// told are rules of the principals A, B, C, D (0 to 3) and the names r, s (0, 1), and who is in which role: A.r 0, A.s 1, B.r 2, B.s 3, C.r 4, C.s 5, D.r 6, D.s 7.
var told = []struct {
	what  string
	rules []api.Rule
	want  map[int][]int
}{
	{"none", nil, nil},
	{"A.r <- B", []api.Rule{member(0, 1)}, map[int][]int{0: {1}}},
	{"A.r <- B, D, A", []api.Rule{member(0, 1), member(0, 3), member(0, 0)}, map[int][]int{0: {0, 1, 3}}},
	{"the chapter's example", []api.Rule{incl(0, 3), member(3, 2)}, map[int][]int{0: {2}, 3: {2}}},
	{"of an empty role", []api.Rule{incl(0, 3), member(0, 2)}, map[int][]int{0: {2}}},
	{"of itself", []api.Rule{incl(0, 0), both(0, 0, 0), link(0, 0, 0)}, nil},
	{"of itself, with one", []api.Rule{incl(0, 0), both(0, 0, 0), member(0, 2)}, map[int][]int{0: {2}}},
	{"in a ring", []api.Rule{incl(0, 2), incl(2, 4), incl(4, 0), member(4, 3)}, map[int][]int{0: {3}, 2: {3}, 4: {3}}},
	{"a ring without one", []api.Rule{incl(0, 2), incl(2, 0), both(4, 2, 0)}, nil},
	{"A.r <- B.s.r", []api.Rule{link(0, 3, 0), member(3, 2), member(3, 3), member(4, 1), member(6, 0), member(2, 2), member(5, 3)}, map[int][]int{0: {0, 1}, 2: {2}, 3: {2, 3}, 4: {1}, 5: {3}, 6: {0}}},
	{"A.r <- B.s.s", []api.Rule{link(0, 3, 1), member(3, 2), member(3, 3), member(4, 1), member(6, 0), member(5, 3)}, map[int][]int{0: {3}, 3: {2, 3}, 4: {1}, 5: {3}, 6: {0}}},
	{"a link of an empty role", []api.Rule{link(0, 3, 0), member(2, 1), member(4, 1)}, map[int][]int{2: {1}, 4: {1}}},
	{"a link to its own", []api.Rule{link(0, 0, 0), member(0, 0), member(0, 1), member(2, 2), member(4, 3)}, map[int][]int{0: {0, 1, 2, 3}, 2: {2}, 4: {3}}},
	{"who comes late into what is linked", []api.Rule{link(0, 3, 0), member(3, 2), incl(4, 6), incl(6, 1), member(1, 3)}, map[int][]int{0: {3}, 1: {3}, 3: {2}, 4: {3}, 6: {3}}},
	{"who comes late into whose is linked", []api.Rule{link(0, 3, 0), member(4, 3), incl(3, 6), incl(6, 1), member(1, 2)}, map[int][]int{0: {3}, 1: {2}, 3: {2}, 4: {3}, 6: {2}}},
	{"a link that feeds itself", []api.Rule{link(2, 2, 0), member(2, 2), member(4, 3), member(6, 0), member(0, 0)}, map[int][]int{0: {0}, 2: {0, 2, 3}, 4: {3}, 6: {0}}},
	{"A.r <- B.s & C.s", []api.Rule{both(0, 3, 5), member(3, 0), member(3, 1), member(5, 1), member(5, 2)}, map[int][]int{0: {1}, 3: {0, 1}, 5: {1, 2}}},
	{"A.r <- C.s & B.s", []api.Rule{both(0, 5, 3), member(3, 0), member(3, 1), member(5, 1), member(5, 2)}, map[int][]int{0: {1}, 3: {0, 1}, 5: {1, 2}}},
	{"one of both comes late", []api.Rule{both(0, 3, 5), incl(3, 7), incl(7, 1), member(1, 2), member(5, 2)}, map[int][]int{0: {2}, 1: {2}, 3: {2}, 5: {2}, 7: {2}}},
	{"another one comes late", []api.Rule{both(0, 3, 5), incl(5, 7), incl(7, 1), member(1, 2), member(3, 2)}, map[int][]int{0: {2}, 1: {2}, 3: {2}, 5: {2}, 7: {2}}},
	{"both of one", []api.Rule{both(0, 3, 3), member(3, 2)}, map[int][]int{0: {2}, 3: {2}}},
	{"both with its own", []api.Rule{both(0, 0, 3), member(3, 2), member(3, 1), member(0, 1)}, map[int][]int{0: {1}, 3: {1, 2}}},
	{"others are not in", []api.Rule{both(0, 3, 5), member(3, 0), member(5, 1)}, map[int][]int{3: {0}, 5: {1}}},
}

func TestP8_2Told(t *testing.T) {
	for _, c := range told {
		has(t, c.what, sem.Eval(4, 2, c.rules...), 4, 2, roles(c.want))
		back := slices.Clone(c.rules)
		slices.Reverse(back)
		has(t, c.what+", from the end", sem.Eval(4, 2, back...), 4, 2, roles(c.want))
	}
}

// TestP8_1Holds: of all models of few principals and names, and all rules of these.
func TestP8_1Holds(t *testing.T) {
	for _, n := range [][2]int{{1, 1}, {1, 2}, {2, 1}, {1, 3}, {2, 2}} {
		prins, links := n[0], n[1]
		rules := few(prins, links)
		for bits := range 1 << (prins * links * prins) {
			m := model(prins, links, bits)
			got := m.of(prins, links)
			has(t, "as it was told", got, prins, links, m)
			for _, r := range rules {
				if want := m.holds(prins, links, r); got.Holds(r) != want {
					t.Fatalf("%d, %d: %v holds in %v: %v", prins, links, r, m, !want)
				}
			}
		}
	}
}

// TestP8_1HoldsDrawn: of models of more principals and names.
func TestP8_1HoldsDrawn(t *testing.T) {
	var d dice = 81
	for range 300 {
		prins, links := d.below(6)+1, d.below(4)+1
		m := in{}
		for range d.below(prins*links*prins + 1) {
			m[[2]int{d.below(prins * links), d.below(prins)}] = true
		}
		got := m.of(prins, links)
		for _, r := range d.rules(40, prins, links) {
			if want := m.holds(prins, links, r); got.Holds(r) != want {
				t.Fatalf("%d, %d: %v holds in %v: %v", prins, links, r, m, !want)
			}
		}
	}
}

// wrong are rules that aren't right, of so many principals and names, though with one number less, or none, they would be.
func wrong(prins, links int) []api.Rule {
	n := prins * links
	l := []api.Rule{
		member(n, 0), member(0, prins), member(-1, 0), member(0, -1), member(math.MaxInt, 0), member(0, math.MinInt),
		incl(n, 0), incl(0, n), incl(-1, 0), incl(0, -1), incl(0, math.MaxInt), incl(0, math.MinInt),
		link(n, 0, 0), link(0, n, 0), link(0, 0, links), link(-1, 0, 0), link(0, -1, 0), link(0, 0, -1), link(0, 0, math.MaxInt),
		both(n, 0, 0), both(0, n, 0), both(0, 0, n), both(-1, 0, 0), both(0, -1, 0), both(0, 0, -1), both(0, math.MinInt, math.MaxInt),
		{Kind: api.Member, A: 1}, {Kind: api.Member, B: 1}, {Kind: api.Member, Via: 1},
		{Kind: api.Incl, Who: 1}, {Kind: api.Incl, B: 1}, {Kind: api.Incl, Via: 1},
		{Kind: api.Link, Who: 1}, {Kind: api.Link, B: 1}, {Kind: api.Both, Who: 1}, {Kind: api.Both, Via: 1},
	}
	for _, kind := range []int{0, -1, 5, 6, 257, math.MinInt, math.MaxInt} {
		l = append(l, api.Rule{Kind: kind}, api.Rule{Kind: kind, Head: 1, Who: 1}, api.Rule{Kind: kind, A: 1, B: 1})
	}
	return l
}

// TestP8_2Wrong: rules that aren't right hold in no model, and bring nothing.
func TestP8_2Wrong(t *testing.T) {
	for _, n := range [][2]int{{2, 2}, {3, 2}, {4, 3}, {64, 64}} {
		l := wrong(n[0], n[1])
		full := slices.Clone(l)
		for role := range n[0] * n[1] {
			full = append(full, member(role, role%n[0]), member(role, 0))
		}
		none, m := sem.Eval(n[0], n[1], l...), sem.Eval(n[0], n[1], full...)
		has(t, "of wrong rules", none, n[0], n[1], nil)
		for _, r := range l {
			if none.Holds(r) || m.Holds(r) {
				t.Errorf("%d, %d: %v holds", n[0], n[1], r)
			}
		}
		for role := range n[0] * n[1] {
			want := []int{0, role % n[0]}
			if got := m.Members(role); !slices.Equal(got, slices.Compact(want)) {
				t.Fatalf("%d, %d: in %d are %v", n[0], n[1], role, got)
			}
		}
	}
}

// TestP8_1Counts: counts below 0 are none, those above 64 are 64.
func TestP8_1Counts(t *testing.T) {
	for _, c := range []struct{ asked, want int }{{math.MinInt, 0}, {-1, 0}, {0, 0}, {1, 1}, {2, 2}, {63, 63}, {64, 64}, {65, 64}, {128, 64}, {1000, 64}, {1001, 64}, {1 << 32, 64}, {math.MaxInt, 64}} {
		for _, d := range []struct{ asked, want int }{{math.MinInt, 0}, {-1, 0}, {0, 0}, {1, 1}, {3, 3}, {63, 63}, {64, 64}, {65, 64}, {1000, 64}, {1 << 32, 64}, {math.MaxInt, 64}} {
			prins, links := c.want, d.want
			last, who, via := prins*links-1, prins-1, links-1
			beyond := []api.Rule{member(last+1, 0), member(0, who+1), incl(0, last+1), incl(last+1, 0), link(0, 0, via+1), both(0, 0, last+1)}
			m := sem.Eval(c.asked, d.asked, append(beyond, member(last, who))...)
			if prins == 0 || links == 0 {
				has(t, "without a role", m, prins, links, nil)
				if m.Holds(api.Rule{Kind: api.Member}) || m.Holds(incl(0, 0)) || m.Holds(link(0, 0, 0)) || m.Holds(both(0, 0, 0)) {
					t.Errorf("%d, %d: a rule holds", c.asked, d.asked)
				}
				continue
			}
			has(t, "the last", m, prins, links, in{{last, who}: true})
			for _, r := range beyond {
				if m.Holds(r) {
					t.Errorf("%d, %d: %v holds", c.asked, d.asked, r)
				}
			}
			// a link goes by how many names there are, as they are counted
			m = sem.Eval(c.asked, d.asked, member(0, who), link(0, 0, via), member(last, 0))
			if want := slices.Compact([]int{0, who}); !slices.Equal(m.Members(0), want) || !m.Holds(link(0, 0, via)) {
				t.Errorf("%d, %d: in 0 are %v, not %v", c.asked, d.asked, m.Members(0), want)
			}
		}
	}
}

// TestP8_2Least: who is in is in each of all models in which the rules hold, and these hold in it; of few principals and names, all rules in twos, and some in more.
func TestP8_2Least(t *testing.T) {
	var d dice = 82
	for _, n := range [][2]int{{1, 1}, {1, 2}, {2, 1}, {1, 3}, {2, 2}} {
		prins, links := n[0], n[1]
		rules := few(prins, links)
		var models []in
		for bits := range 1 << (prins * links * prins) {
			models = append(models, model(prins, links, bits))
		}
		for range 150 {
			l := []api.Rule{rules[d.below(len(rules))], rules[d.below(len(rules))]}
			l = append(l, d.rules(d.below(7), prins, links)...)
			each := model(prins, links, -1)
			for _, m := range models {
				if !slices.ContainsFunc(l, func(r api.Rule) bool { return !m.holds(prins, links, r) }) {
					for x := range each {
						if !m[x] {
							delete(each, x)
						}
					}
				}
			}
			got := sem.Eval(prins, links, l...)
			has(t, "the least", got, prins, links, each)
			for _, r := range l {
				if !got.Holds(r) {
					t.Errorf("%d, %d: %v doesn't hold", prins, links, r)
				}
			}
		}
	}
}

// TestP8_2Few: all rules in twos with all that is told, held against a plain search.
func TestP8_2Few(t *testing.T) {
	prins, links := 2, 2
	rules := few(prins, links)
	start := []api.Rule{member(0, 1), member(1, 0), member(2, 0), member(3, 1)}
	for _, a := range rules {
		for _, b := range rules {
			for i := range start {
				l := []api.Rule{a, b, start[i], start[(i+1)%len(start)]}
				has(t, "in twos", sem.Eval(prins, links, l...), prins, links, least(prins, links, l))
			}
		}
		if t.Failed() {
			return
		}
	}
}

// TestP8_2Drawn: drawn rules, held against a plain search; and all of them hold.
func TestP8_2Drawn(t *testing.T) {
	var d dice = 8
	for range 400 {
		prins, links := d.below(7)+1, d.below(4)+1
		l := d.rules(d.below(4*prins*links), prins, links)
		m := sem.Eval(prins, links, l...)
		has(t, "drawn", m, prins, links, least(prins, links, l))
		for _, r := range l {
			if !m.Holds(r) {
				t.Errorf("%d, %d: %v doesn't hold", prins, links, r)
			}
		}
		if t.Failed() {
			t.Fatal(prins, links, l)
		}
	}
}

// TestP8_2Great: as many principals, names and rules as there may be.
func TestP8_2Great(t *testing.T) {
	const n = 64
	// X0 is in the first role, and all of a role are in the one behind it
	l := []api.Rule{member(0, 0)}
	for role := 1; role < n*n; role++ {
		l = append(l, incl(role, role-1))
	}
	m := sem.Eval(n, n, l...)
	for role := range n * n {
		if !slices.Equal(m.Members(role), []int{0}) {
			t.Fatalf("in %d are %v", role, m.Members(role))
		}
	}
	// each one's first role has the next one; whoever is linked to the first one by a row of such roles is in its last role
	l = []api.Rule{member(n-1, 0), link(n-1, n-1, 0)}
	for who := range n - 1 {
		l = append(l, member(who*n, who+1))
	}
	if m = sem.Eval(n, n, l...); len(m.Members(n-1)) != n || m.Members(n - 1)[n-1] != n-1 || len(m.Members(n)) != 1 {
		t.Errorf("linked are %v", m.Members(n-1))
	}
	// everybody is in everything
	l = nil
	for who := range n {
		l = append(l, member(0, who))
	}
	for role := range n * n {
		l = append(l, incl(role, 0), both(0, role, role), link(role, role, n-1))
	}
	m = sem.Eval(n, n, l...)
	for role := range n * n {
		if len(m.Members(role)) != n {
			t.Fatalf("in %d are %v", role, m.Members(role))
		}
	}
	if m.Steps() > sem.Bound(n, n, len(l)) {
		t.Errorf("%d steps", m.Steps())
	}
}

func TestP8_2Nil(t *testing.T) {
	var m *sem.Model
	has(t, "nil", m, 0, 0, nil)
	if m.In(0, 0) || m.In(-1, -1) || len(m.Members(0)) != 0 || m.Steps() != 0 {
		t.Error("somebody is in a role of nil")
	}
	for _, r := range append(wrong(2, 2), few(1, 1)...) {
		if m.Holds(r) {
			t.Errorf("%v holds in nil", r)
		}
	}
	has(t, "of no rules", sem.Eval(3, 2), 3, 2, nil)
	has(t, "of a nil list", sem.Eval(3, 2, []api.Rule(nil)...), 3, 2, nil)
	if m := sem.Eval(3, 2); m == nil || m.Holds(member(0, 0)) || !m.Holds(incl(0, 1)) || !m.Holds(link(0, 1, 1)) || !m.Holds(both(0, 1, 2)) {
		t.Error("of no rules: what holds")
	}
}

// TestP8_2Apart: what is handed in stays, and isn't kept; what is answered changes nothing; models know nothing of each other.
func TestP8_2Apart(t *testing.T) {
	given := []api.Rule{incl(0, 3), incl(0, 3), {}, member(3, 2), member(9, 9), member(0, 1), both(7, 0, 3)}
	before := slices.Clone(given)
	m := sem.Eval(4, 2, given[:4]...)
	if !slices.Equal(given, before) {
		t.Error("what was handed in is changed:", given)
	}
	clear(given)
	want := roles(map[int][]int{0: {2}, 3: {2}})
	has(t, "when the rules went", m, 4, 2, want)
	l := m.Members(0)
	l[0] = 3
	_ = append(l[:0], 1, 1)
	has(t, "when a list was changed", m, 4, 2, want)
	has(t, "another one", sem.Eval(4, 2, member(0, 1), member(2, 0)), 4, 2, roles(map[int][]int{0: {1}, 2: {0}}))
	has(t, "the first one", m, 4, 2, want)
}

func TestP8_3Bound(t *testing.T) {
	for _, c := range []struct {
		prins, links, rules int
		want                int64
	}{
		{0, 0, 0, 4}, {1, 0, 0, 32}, {0, 1, 0, 16}, {0, 0, 1, 8}, {1, 1, 1, 256}, {2, 3, 4, 4 * 27 * 16 * 5}, {4, 2, 7, 4 * 125 * 9 * 8}, {17, 12, 80, 4 * 5832 * 169 * 81},
		{63, 64, 9999, 4 * 262144 * 4225 * 10000}, {64, 63, 10000, 4 * 274625 * 4096 * 10001}, {64, 64, 10000, 4 * 274625 * 4225 * 10001},
		{65, 64, 10000, 4 * 274625 * 4225 * 10001}, {64, 65, 10000, 4 * 274625 * 4225 * 10001}, {64, 64, 10001, 4 * 274625 * 4225 * 10001},
		{math.MaxInt, math.MaxInt, math.MaxInt, 4 * 274625 * 4225 * 10001}, {math.MinInt, math.MinInt, math.MinInt, 4},
		{-1, 2, 3, 4 * 9 * 4}, {2, -1, 3, 4 * 27 * 4}, {2, 3, -1, 4 * 27 * 16}, {2, 3, math.MinInt, 4 * 27 * 16}, {1 << 32, 0, 0, 4 * 274625}, {0, 1 << 32, 0, 4 * 4225}, {0, 0, 1 << 32, 4 * 10001},
	} {
		if got := sem.Bound(c.prins, c.links, c.rules); got != c.want {
			t.Errorf("%d, %d, %d: %d, not %d", c.prins, c.links, c.rules, got, c.want)
		}
	}
}

// TestP8_3Steps: each rule that is right is gone over at least once, and each one who is in something is followed.
func TestP8_3Steps(t *testing.T) {
	for _, c := range told {
		m := sem.Eval(4, 2, c.rules...)
		total := 0
		for role := range 8 {
			total += len(m.Members(role))
		}
		if m.Steps() < int64(len(c.rules)+total) {
			t.Errorf("%s: %d steps, of %d rules and %d in roles", c.what, m.Steps(), len(c.rules), total)
		}
		if again := sem.Eval(4, 2, c.rules...).Steps(); again != m.Steps() {
			t.Errorf("%s: %d steps, then %d", c.what, m.Steps(), again)
		}
	}
	all := []api.Rule{member(0, 0), member(0, 1), member(0, 2), member(0, 3)}
	for _, c := range []struct {
		what  string
		rules []api.Rule
		least int64
	}{
		{"5 rules, 8 in roles, 4 of them for the inclusion", append(all[:4:4], incl(1, 0)), 17},
		{"6 rules, 9 in roles, 1 of them for the link, and 4 in what it links", append(all[:4:4], member(1, 0), link(2, 1, 0)), 20},
		{"6 rules, 6 in roles, 5 of them for the both", append(all[:4:4], member(1, 0), both(2, 1, 0)), 17},
	} {
		if got := sem.Eval(4, 2, c.rules...).Steps(); got < c.least {
			t.Errorf("%s: %d steps", c.what, got)
		}
	}
}

// TestP8_4More: with more rules nobody is out who was in.
func TestP8_4More(t *testing.T) {
	var d dice = 84
	for range 200 {
		prins, links := d.below(6)+1, d.below(4)+1
		var l []api.Rule
		before := sem.Eval(prins, links)
		for range 2 * prins * links {
			l = append(l, d.rule(prins, links))
			after := sem.Eval(prins, links, l...)
			for role := range prins * links {
				for _, who := range before.Members(role) {
					if !after.In(role, who) {
						t.Fatalf("%d, %d: %d is out of %d by %v", prins, links, who, role, l)
					}
				}
			}
			before = after
		}
	}
}

// TestP8_5Bound: Steps is at most Bound: of all rules that there may be, of drawn ones, and of wrong ones.
func TestP8_5Bound(t *testing.T) {
	for prins := -1; prins <= 4; prins++ {
		for links := -1; links <= 3; links++ {
			all := few(max(prins, 0), max(links, 0))
			for n := range len(all) + 1 {
				if n > 60 && n < len(all)-1 {
					continue
				}
				if m := sem.Eval(prins, links, all[:n]...); m.Steps() < 0 || m.Steps() > sem.Bound(prins, links, n) {
					t.Errorf("%d, %d, %d rules: %d steps", prins, links, n, m.Steps())
				}
			}
		}
	}
	var d dice = 85
	for range 100 {
		prins, links := d.below(16)+1, d.below(12)+1
		l := append(d.rules(d.below(300), prins, links), wrong(prins, links)...)
		if m := sem.Eval(prins, links, l...); m.Steps() > sem.Bound(prins, links, len(l)) {
			t.Errorf("%d, %d, %d rules: %d steps", prins, links, len(l), m.Steps())
		}
	}
}

// TestP8_5Beyond: far more rules than Bound counts: what isn't right, or was there, takes no step.
func TestP8_5Beyond(t *testing.T) {
	for _, c := range []struct{ prins, links, pairs int }{{0, 0, 100000}, {0, 1, 100000}, {1, 0, 200000}, {1, 1, 700000}} {
		for _, r := range []api.Rule{{}, both(0, 0, 0)} {
			l := slices.Repeat([]api.Rule{r, member(0, 0)}, c.pairs)
			m := sem.Eval(c.prins, c.links, l...)
			if bound := sem.Bound(c.prins, c.links, len(l)); int64(len(l)) <= bound || m.Steps() > bound {
				t.Errorf("%d, %d, %v: %d steps, of at most %d", c.prins, c.links, r, m.Steps(), bound)
			}
			if there := c.prins > 0 && c.links > 0; m.In(0, 0) != there {
				t.Errorf("%d, %d, %v: %v", c.prins, c.links, r, m.In(0, 0))
			}
		}
	}
}

// TestP8_6Same: rules in another order, or doubled, are the same, in what they take as well.
func TestP8_6Same(t *testing.T) {
	var d dice = 86
	for range 200 {
		prins, links := d.below(6)+1, d.below(4)+1
		l := d.rules(d.below(3*prins*links)+1, prins, links)
		m := sem.Eval(prins, links, l...)
		want := least(prins, links, l)
		for range 4 {
			other := slices.Clone(l)
			for range d.below(3) {
				other = append(other, l[d.below(len(l))])
			}
			for i := range other {
				j := d.below(i + 1)
				other[i], other[j] = other[j], other[i]
			}
			o := sem.Eval(prins, links, other...)
			has(t, "in another order", o, prins, links, want)
			if o.Steps() != m.Steps() {
				t.Fatalf("%v: %d steps, and %v: %d", l, m.Steps(), other, o.Steps())
			}
			for _, r := range d.rules(5, prins, links) {
				if o.Holds(r) != m.Holds(r) {
					t.Errorf("%v: %v and %v", r, m.Holds(r), o.Holds(r))
				}
			}
		}
	}
}

// TestP8_2Table: rules of statements, by a table's numbers.
func TestP8_2Table(t *testing.T) {
	l := table.New([]string{"A", "B", "C"}, []string{"r", "s"})
	ar, bs := api.Role{Owner: "A", Name: "r"}, api.Role{Owner: "B", Name: "s"}
	rules := l.Rules(api.Stmt{Kind: api.Incl, Head: ar, A: bs}, api.Stmt{Kind: api.Member, Head: bs, Who: "C"})
	m := sem.Eval(l.Prins().Len(), l.Links().Len(), rules...)
	if !m.In(l.Role(ar), l.Prins().Find("C")) || !slices.Equal(m.Members(l.Role(ar)), []int{2}) || m.In(l.Role(ar), 1) || m.In(l.Role(api.Role{Owner: "A", Name: "s"}), 2) {
		t.Error(m.Members(l.Role(ar)))
	}
	for _, r := range rules {
		if !m.Holds(r) {
			t.Errorf("%v doesn't hold", r)
		}
	}
}
