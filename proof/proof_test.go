package proof_test

import (
	"math"
	"slices"
	"testing"

	"crupper/api"
	"crupper/proof"
	"crupper/table"
)

func member(head, who int) api.Rule { return api.Rule{Kind: api.Member, Head: head, Who: who} }

func incl(head, a int) api.Rule { return api.Rule{Kind: api.Incl, Head: head, A: a} }

func link(head, a, via int) api.Rule {
	return api.Rule{Kind: api.Link, Head: head, A: a, Via: via}
}

func both(head, a, b int) api.Rule { return api.Rule{Kind: api.Both, Head: head, A: a, B: b} }

func step(rule, role, who int) api.Step { return api.Step{Rule: rule, Role: role, Who: who} }

func via(rule, role, who, mid int) api.Step {
	return api.Step{Rule: rule, Role: role, Who: who, Mid: mid}
}

// dice draws numbers, the same ones each time.
type dice uint64

func (d *dice) below(n int) int {
	*d = *d*6364136223846793005 + 1442695040888963407
	return int(uint64(*d)>>33) % n
}

// rule draws one that is right, of so many principals and names; there is a role at least.
func (d *dice) rule(prins, links int) api.Rule {
	roles := prins * links
	head, a := d.below(roles), d.below(roles)
	switch d.below(5) {
	case 0, 1:
		return member(head, d.below(prins))
	case 2:
		return incl(head, a)
	case 3:
		return link(head, a, d.below(links))
	}
	return both(head, a, d.below(roles))
}

func (d *dice) rules(n, prins, links int) []api.Rule {
	var l []api.Rule
	for range n {
		l = append(l, d.rule(prins, links))
	}
	return l
}

// few are all rules that are right, of so many principals and names.
func few(prins, links int) []api.Rule {
	var l []api.Rule
	roles := prins * links
	for head := range roles {
		for who := range prins {
			l = append(l, member(head, who))
		}
		for a := range roles {
			l = append(l, incl(head, a))
			for via := range links {
				l = append(l, link(head, a, via))
			}
			for b := range roles {
				l = append(l, both(head, a, b))
			}
		}
	}
	return l
}

// says: does one of the steps say that this one is in that role?
func says(l []api.Step, role, who int) bool {
	return slices.ContainsFunc(l, func(s api.Step) bool { return s.Role == role && s.Who == who })
}

// right says by the chapter's words whether a step is right behind others.
func right(prins, links int, rules []api.Rule, ahead []api.Step, s api.Step) bool {
	if prins > 64 || links > 64 || s.Rule < 0 || s.Rule >= len(rules) || s.Who < 0 || s.Who >= prins {
		return false
	}
	r := rules[s.Rule]
	if !table.Right(prins, links, r) || r.Head != s.Role {
		return false
	}
	switch r.Kind {
	case api.Member:
		return s.Mid == 0 && s.Who == r.Who
	case api.Incl:
		return s.Mid == 0 && says(ahead, r.A, s.Who)
	case api.Both:
		return s.Mid == 0 && says(ahead, r.A, s.Who) && says(ahead, r.B, s.Who)
	}
	return s.Mid >= 0 && s.Mid < prins && says(ahead, r.A, s.Mid) && says(ahead, s.Mid*links+r.Via, s.Who)
}

// checked is Check, by the chapter's words.
func checked(prins, links int, rules []api.Rule, l []api.Step) bool {
	for i, s := range l {
		if says(l[:i], s.Role, s.Who) || !right(prins, links, rules, l[:i], s) {
			return false
		}
	}
	return true
}

// standsOn: does a step by this rule go by that one's being in that role?
func standsOn(links int, r api.Rule, s api.Step, role, who int) bool {
	switch r.Kind {
	case api.Incl:
		return role == r.A && who == s.Who
	case api.Both:
		return (role == r.A || role == r.B) && who == s.Who
	case api.Link:
		return role == r.A && who == s.Mid || role == s.Mid*links+r.Via && who == s.Who
	}
	return false
}

// in is who is in which role in the least model: role, then principal.
type in map[[2]int]bool

// least takes the rules that are right one by one, again and again, till none brings anybody.
func least(prins, links int, rules []api.Rule) in {
	m := in{}
	for grown := true; grown; {
		grown = false
		for _, r := range rules {
			for who := range prins {
				if table.Right(prins, links, r) && !m[[2]int{r.Head, who}] && m.asked(prins, links, r, who) {
					m[[2]int{r.Head, who}], grown = true, true
				}
			}
		}
	}
	return m
}

// asked: does the rule ask for that one in its head, as matters are?
func (m in) asked(prins, links int, r api.Rule, who int) bool {
	switch r.Kind {
	case api.Member:
		return r.Who == who
	case api.Incl:
		return m[[2]int{r.A, who}]
	case api.Both:
		return m[[2]int{r.A, who}] && m[[2]int{r.B, who}]
	}
	for x := range prins {
		if m[[2]int{r.A, x}] && m[[2]int{x*links + r.Via, who}] {
			return true
		}
	}
	return false
}

// Of the principals A, B, C (0 to 2) and the names r, s (0, 1): A.r 0, A.s 1, B.r 2, B.s 3, C.r 4, C.s 5.
var told = []struct {
	what  string
	rules []api.Rule
	l     []api.Step
	want  bool
}{
	{"nothing", nil, nil, true},
	{"nothing, of rules", []api.Rule{member(0, 0)}, nil, true},
	{"a member", []api.Rule{member(0, 1)}, []api.Step{step(0, 0, 1)}, true},
	{"a member, by another place", []api.Rule{incl(0, 2), member(0, 1)}, []api.Step{step(1, 0, 1)}, true},
	{"another one", []api.Rule{member(0, 1)}, []api.Step{step(0, 0, 2)}, false},
	{"another role", []api.Rule{member(0, 1)}, []api.Step{step(0, 1, 1)}, false},
	{"another rule", []api.Rule{member(0, 1), member(0, 2)}, []api.Step{step(1, 0, 1)}, false},
	{"no rule", []api.Rule{member(0, 1)}, []api.Step{step(1, 0, 1)}, false},
	{"no rule, below", []api.Rule{member(0, 1)}, []api.Step{step(-1, 0, 1)}, false},
	{"no rules", nil, []api.Step{step(0, 0, 0)}, false},
	{"a member by way of one", []api.Rule{member(0, 1)}, []api.Step{via(0, 0, 1, 1)}, false},
	{"a member by way of none", []api.Rule{member(0, 1)}, []api.Step{via(0, 0, 1, -1)}, false},
	{"the chapter's example", []api.Rule{incl(0, 3), member(3, 2)}, []api.Step{step(1, 3, 2), step(0, 0, 2)}, true},
	{"in another order", []api.Rule{incl(0, 3), member(3, 2)}, []api.Step{step(0, 0, 2), step(1, 3, 2)}, false},
	{"without what it stands on", []api.Rule{incl(0, 3), member(3, 2)}, []api.Step{step(0, 0, 2)}, false},
	{"of another one", []api.Rule{incl(0, 3), member(3, 2)}, []api.Step{step(1, 3, 2), step(0, 0, 1)}, false},
	{"of all in another role", []api.Rule{incl(0, 3), member(2, 2)}, []api.Step{step(1, 2, 2), step(0, 0, 2)}, false},
	{"all, by way of one", []api.Rule{incl(0, 3), member(3, 2)}, []api.Step{step(1, 3, 2), via(0, 0, 2, 2)}, false},
	{"on itself", []api.Rule{incl(0, 0)}, []api.Step{step(0, 0, 1)}, false},
	{"of itself", []api.Rule{incl(0, 0), member(0, 1)}, []api.Step{step(1, 0, 1), step(0, 0, 1)}, false},
	{"twice", []api.Rule{member(0, 1)}, []api.Step{step(0, 0, 1), step(0, 0, 1)}, false},
	{"twice, by two rules", []api.Rule{member(0, 1), member(0, 1)}, []api.Step{step(0, 0, 1), step(1, 0, 1)}, false},
	{"two in a role", []api.Rule{member(0, 1), member(0, 2)}, []api.Step{step(0, 0, 1), step(1, 0, 2)}, true},
	{"one in two roles", []api.Rule{member(0, 1), member(2, 1)}, []api.Step{step(0, 0, 1), step(1, 2, 1)}, true},
	{"one too many", []api.Rule{member(0, 1), member(2, 1)}, []api.Step{step(1, 2, 1), step(0, 0, 1)}, true},
	{"a link", []api.Rule{link(0, 3, 0), member(3, 2), member(4, 1)}, []api.Step{step(1, 3, 2), step(2, 4, 1), via(0, 0, 1, 2)}, true},
	{"a link by way of another one", []api.Rule{link(0, 3, 0), member(3, 2), member(4, 1)}, []api.Step{step(1, 3, 2), step(2, 4, 1), via(0, 0, 1, 1)}, false},
	{"a link by way of none", []api.Rule{link(0, 3, 0), member(3, 2), member(4, 1)}, []api.Step{step(1, 3, 2), step(2, 4, 1), via(0, 0, 1, 3)}, false},
	{"a link by way of none, below", []api.Rule{link(0, 3, 0), member(3, 2), member(4, 1)}, []api.Step{step(1, 3, 2), step(2, 4, 1), via(0, 0, 1, -1)}, false},
	{"a link by way of the first one", []api.Rule{link(0, 3, 0), member(3, 0), member(0, 1)}, []api.Step{step(1, 3, 0), step(2, 0, 1), via(0, 0, 1, 0)}, false},
	{"a link by way of the first one, once", []api.Rule{link(2, 3, 0), member(3, 0), member(0, 1)}, []api.Step{step(1, 3, 0), step(2, 0, 1), via(0, 2, 1, 0)}, true},
	{"a link without its first role", []api.Rule{link(0, 3, 0), member(3, 2), member(4, 1)}, []api.Step{step(2, 4, 1), via(0, 0, 1, 2)}, false},
	{"a link without its second role", []api.Rule{link(0, 3, 0), member(3, 2), member(4, 1)}, []api.Step{step(1, 3, 2), via(0, 0, 1, 2)}, false},
	{"a link by another name", []api.Rule{link(0, 3, 1), member(3, 2), member(4, 1)}, []api.Step{step(1, 3, 2), step(2, 4, 1), via(0, 0, 1, 2)}, false},
	{"a link of oneself", []api.Rule{link(0, 4, 0), member(4, 2)}, []api.Step{step(1, 4, 2), via(0, 0, 2, 2)}, true},
	{"both", []api.Rule{both(0, 3, 5), member(3, 2), member(5, 2)}, []api.Step{step(2, 5, 2), step(1, 3, 2), step(0, 0, 2)}, true},
	{"both, in another order", []api.Rule{both(0, 5, 3), member(3, 2), member(5, 2)}, []api.Step{step(1, 3, 2), step(2, 5, 2), step(0, 0, 2)}, true},
	{"both, without one", []api.Rule{both(0, 3, 5), member(3, 2), member(5, 2)}, []api.Step{step(1, 3, 2), step(0, 0, 2)}, false},
	{"both, without the other one", []api.Rule{both(0, 3, 5), member(3, 2), member(5, 2)}, []api.Step{step(2, 5, 2), step(0, 0, 2)}, false},
	{"both, of two", []api.Rule{both(0, 3, 5), member(3, 1), member(5, 2)}, []api.Step{step(2, 5, 2), step(1, 3, 1), step(0, 0, 2)}, false},
	{"both, by way of one", []api.Rule{both(0, 3, 5), member(3, 2), member(5, 2)}, []api.Step{step(1, 3, 2), step(2, 5, 2), via(0, 0, 2, 1)}, false},
	{"both of one", []api.Rule{both(0, 3, 3), member(3, 2)}, []api.Step{step(1, 3, 2), step(0, 0, 2)}, true},
	{"a kind that there isn't", []api.Rule{{Kind: 5}}, []api.Step{step(0, 0, 0)}, false},
	{"no kind", []api.Rule{{}}, []api.Step{step(0, 0, 0)}, false},
	{"a principal that there isn't", []api.Rule{member(0, 3)}, []api.Step{step(0, 0, 3)}, false},
	{"a role that there isn't", []api.Rule{member(6, 0)}, []api.Step{step(0, 6, 0)}, false},
	{"of a role that there isn't", []api.Rule{incl(0, 6), member(6, 0)}, []api.Step{step(1, 6, 0), step(0, 0, 0)}, false},
	{"with what is no part of it", []api.Rule{{Kind: api.Member, Who: 1, A: 1}}, []api.Step{step(0, 0, 1)}, false},
	{"a step behind a wrong one", []api.Rule{member(0, 1), member(0, 2)}, []api.Step{step(0, 0, 2), step(1, 0, 2)}, false},
	{"a wrong step behind a right one", []api.Rule{member(0, 1), member(0, 2)}, []api.Step{step(1, 0, 2), step(0, 0, 2)}, false},
}

func TestP9_1Told(t *testing.T) {
	for _, c := range told {
		if proof.Check(3, 2, c.rules, c.l...) != c.want {
			t.Errorf("%s: Check isn't %v", c.what, c.want)
		}
		if checked(3, 2, c.rules, c.l) != c.want {
			t.Errorf("%s: by the chapter's words it isn't %v", c.what, c.want)
		}
	}
}

// TestP9_1Proves: the last step tells what is proved, no other one.
func TestP9_1Proves(t *testing.T) {
	for _, c := range told {
		for role := -1; role <= 6; role++ {
			for who := -1; who <= 3; who++ {
				n := len(c.l)
				want := c.want && n > 0 && c.l[n-1].Role == role && c.l[n-1].Who == who
				if proof.Proves(3, 2, c.rules, role, who, c.l...) != want {
					t.Errorf("%s: Proves %d in %d isn't %v", c.what, who, role, want)
				}
			}
		}
	}
	if proof.Proves(3, 2, []api.Rule{member(0, 0)}, 0, 0) {
		t.Error("no steps prove something")
	}
}

// around are all steps with numbers that there are, and those next to them.
func around(prins, links, rules int) []api.Step {
	var l []api.Step
	for rule := -1; rule <= rules; rule++ {
		for role := -1; role <= prins*links; role++ {
			for who := -1; who <= prins; who++ {
				for mid := -1; mid <= prins; mid++ {
					l = append(l, via(rule, role, who, mid))
				}
			}
		}
	}
	return l
}

// TestP9_1Each: each step behind each other one, and behind two.
func TestP9_1Each(t *testing.T) {
	grounds := [][]api.Rule{
		{member(0, 1), incl(1, 0)},
		{member(1, 0), member(1, 1), link(0, 1, 0)},
		{member(0, 0), member(1, 0), both(1, 0, 1)},
		{member(1, 1), link(1, 1, 0), {Kind: 9}},
	}
	for _, rules := range grounds {
		steps := around(2, 1, len(rules))
		good := slices.DeleteFunc(slices.Clone(steps), func(s api.Step) bool {
			return s.Rule < 0 || s.Rule >= len(rules) || rules[s.Rule].Head != s.Role || s.Who < 0 || s.Who > 1 || s.Mid < 0 || s.Mid > 1
		})
		see := func(l ...api.Step) {
			if want := checked(2, 1, rules, l); proof.Check(2, 1, rules, l...) != want {
				t.Errorf("%v: Check of %v isn't %v", rules, l, want)
			}
		}
		for _, a := range steps {
			see(a)
			for _, b := range good {
				see(b, a)
				see(a, b)
				for _, c := range good {
					see(b, c, a)
				}
			}
		}
	}
}

// TestP9_1Wild: numbers that are far from all that there is.
func TestP9_1Wild(t *testing.T) {
	wild := []int{math.MinInt, math.MinInt / 2, -1 << 32, -65, -1, 64, 1 << 32, math.MaxInt/2 + 1, math.MaxInt}
	rules := []api.Rule{member(1, 0), link(0, 1, 0), member(0, 1), incl(2, 1)}
	l := []api.Step{step(0, 1, 0), step(2, 0, 1), via(1, 0, 1, 0), step(3, 2, 0)}
	for _, x := range wild {
		for i := range l {
			for _, bad := range []api.Step{
				{Rule: x, Role: l[i].Role, Who: l[i].Who, Mid: l[i].Mid}, {Rule: l[i].Rule, Role: x, Who: l[i].Who, Mid: l[i].Mid},
				{Rule: l[i].Rule, Role: l[i].Role, Who: x, Mid: l[i].Mid}, {Rule: l[i].Rule, Role: l[i].Role, Who: l[i].Who, Mid: x}} {
				if proof.Check(4, 1, rules, append(slices.Clone(l[:2]), bad)...) || proof.Proves(4, 1, rules, bad.Role, bad.Who, bad) {
					t.Errorf("%v is right", bad)
				}
			}
		}
		for _, r := range []api.Rule{member(x, 0), member(0, x), incl(x, 0), incl(0, x), link(0, x, 0), link(0, 0, x), both(0, x, 0), both(0, 0, x), {Kind: x}} {
			rules := []api.Rule{member(0, 0), r}
			if proof.Check(4, 1, rules, step(0, 0, 0), step(1, r.Head, 1)) || proof.Check(4, 1, rules, step(1, r.Head, x)) {
				t.Errorf("a step by %v is right", r)
			}
			if l, ok := proof.Why(4, 1, rules, r.Head, 1); ok || len(l) > 0 {
				t.Errorf("%v proves something", r)
			}
		}
		if l, ok := proof.Why(4, 1, rules, x, 0); ok || len(l) > 0 {
			t.Errorf("0 is in %d", x)
		}
		if l, ok := proof.Why(4, 1, rules, 1, x); ok || len(l) > 0 {
			t.Errorf("%d is in 1", x)
		}
	}
}

// TestP9_1Counts: of 64 principals and names there are proofs, of more, or of less than one, there are none.
func TestP9_1Counts(t *testing.T) {
	rules := []api.Rule{member(0, 0)}
	for _, n := range []struct {
		prins, links int
		want         bool
	}{
		{1, 1, true}, {64, 1, true}, {1, 64, true}, {64, 64, true},
		{65, 1, false}, {1, 65, false}, {65, 65, false}, {65, 64, false}, {64, 65, false}, {1000, 1, false}, {1, 1000, false}, {1001, 1, false},
		{0, 1, false}, {1, 0, false}, {0, 0, false}, {-1, 1, false}, {1, -1, false}, {-1, -1, false},
		{math.MinInt, 1, false}, {1, math.MinInt, false}, {math.MaxInt, 1, false}, {1, math.MaxInt, false}, {math.MaxInt, math.MaxInt, false},
	} {
		if proof.Check(n.prins, n.links, rules, step(0, 0, 0)) != n.want {
			t.Errorf("%v: Check isn't so", n)
		}
		if proof.Proves(n.prins, n.links, rules, 0, 0, step(0, 0, 0)) != n.want {
			t.Errorf("%v: Proves isn't so", n)
		}
		l, ok := proof.Why(n.prins, n.links, rules, 0, 0)
		if ok != n.want || n.want && !slices.Equal(l, []api.Step{step(0, 0, 0)}) || !n.want && len(l) > 0 {
			t.Errorf("%v: Why is %v, %v", n, l, ok)
		}
		if !proof.Check(n.prins, n.links, rules) {
			t.Errorf("%v: no step is wrong", n)
		}
	}
}

func TestP9_1Uses(t *testing.T) {
	for _, c := range []struct{ rules, want []int }{
		{nil, nil},
		{[]int{3}, []int{3}},
		{[]int{3, 3}, []int{3}},
		{[]int{3, 1, 2}, []int{1, 2, 3}},
		{[]int{2, 1, 2, 1, 0}, []int{0, 1, 2}},
		{[]int{math.MaxInt, -1, 5, math.MinInt, -1}, []int{math.MinInt, -1, 5, math.MaxInt}},
	} {
		var l []api.Step
		for i, rule := range c.rules {
			l = append(l, via(rule, i, 7-i, -i))
		}
		if got := proof.Uses(l...); !slices.Equal(got, c.want) {
			t.Errorf("of %v: %v, not %v", c.rules, got, c.want)
		}
	}
}

// why holds Why's answer against all that is promised of it.
func why(t *testing.T, prins, links int, rules []api.Rule, role, who int, want bool) {
	t.Helper()
	l, ok := proof.Why(prins, links, rules, role, who)
	if ok != want || !ok && len(l) > 0 {
		t.Fatalf("%d, %d, %v: why %d is in %d: %v, %v", prins, links, rules, who, role, l, ok)
	}
	if !ok {
		return
	}
	n := len(l)
	if n == 0 || l[n-1].Role != role || l[n-1].Who != who || !checked(prins, links, rules, l) {
		t.Fatalf("%d, %d, %v: %v doesn't prove that %d is in %d", prins, links, rules, l, who, role)
	}
	if !proof.Proves(prins, links, rules, role, who, l...) || !proof.Check(prins, links, rules, l...) {
		t.Fatalf("%d, %d, %v: not so: %v proves that %d is in %d", prins, links, rules, l, who, role)
	}
	for i, s := range l[:n-1] {
		if !slices.ContainsFunc(l[i+1:], func(x api.Step) bool { return standsOn(links, rules[x.Rule], x, s.Role, s.Who) }) {
			t.Fatalf("%d, %d, %v: nothing stands on step %d of %v", prins, links, rules, i, l)
		}
	}
	var used []api.Rule
	for _, i := range proof.Uses(l...) {
		used = append(used, rules[i])
	}
	if !least(prins, links, used)[[2]int{role, who}] {
		t.Fatalf("%d, %d, %v: by what is used of it %d isn't in %d", prins, links, rules, who, role)
	}
}

// all holds Why's answers for all, and some that there aren't, against who is in.
func all(t *testing.T, prins, links int, rules []api.Rule) {
	t.Helper()
	want := least(prins, links, rules)
	for role := -1; role <= prins*links; role++ {
		for who := -1; who <= prins; who++ {
			why(t, prins, links, rules, role, who, want[[2]int{role, who}])
		}
	}
}

// TestP9_2Example: the chapter's.
func TestP9_2Example(t *testing.T) {
	l, ok := proof.Why(3, 2, []api.Rule{incl(0, 3), member(3, 2)}, 0, 2)
	if !ok || !slices.Equal(l, []api.Step{step(1, 3, 2), step(0, 0, 2)}) {
		t.Error(l, ok)
	}
}

// TestP9_2Told: of the rules above, whatever the steps.
func TestP9_2Told(t *testing.T) {
	for _, c := range told {
		all(t, 3, 2, c.rules)
	}
}

// TestP9_3Few: of all rows of three rules of two principals and one name, and all pairs of one principal and two names.
func TestP9_3Few(t *testing.T) {
	l := few(2, 1)
	for _, a := range l {
		for _, b := range l {
			for _, c := range l {
				all(t, 2, 1, []api.Rule{a, b, c})
			}
		}
	}
	l = few(1, 2)
	for _, a := range l {
		for _, b := range l {
			all(t, 1, 2, []api.Rule{a, b})
		}
	}
}

func TestP9_3Drawn(t *testing.T) {
	d := dice(9)
	for range 400 {
		prins, links := 1+d.below(5), 1+d.below(4)
		rules := d.rules(d.below(30), prins, links)
		for range d.below(4) {
			at := d.below(len(rules) + 1)
			wrong := d.rule(prins+3, links+2)
			rules = slices.Insert(rules, at, wrong, d.rule(prins, links))
		}
		all(t, prins, links, rules)
	}
}

// TestP9_3Doubled: it doesn't matter how often a rule stands there.
func TestP9_3Doubled(t *testing.T) {
	d := dice(99)
	for range 100 {
		rules := d.rules(12, 4, 2)
		all(t, 4, 2, slices.Concat(rules, rules, []api.Rule{{}}, rules))
	}
}

// TestP9_4Needed: without one of the rules that a proof uses another one may be, but none uses it.
func TestP9_4Needed(t *testing.T) {
	d := dice(94)
	for range 100 {
		rules := d.rules(16, 4, 2)
		for x := range least(4, 2, rules) {
			l, _ := proof.Why(4, 2, rules, x[0], x[1])
			used := proof.Uses(l...)
			var rest []api.Rule
			for i, r := range rules {
				if i == used[0] {
					r = api.Rule{} // no rule, so that all others keep their places
				}
				rest = append(rest, r)
			}
			why(t, 4, 2, rest, x[0], x[1], least(4, 2, rest)[x])
		}
	}
}

// TestP9_2Long: a row of all roles of many, each in the next one, and links through many.
func TestP9_2Long(t *testing.T) {
	const n = 64
	rules := []api.Rule{member(0, 7)}
	for i := range n*n - 1 {
		rules = append(rules, incl(i+1, i))
	}
	l, ok := proof.Why(n, n, rules, n*n-1, 7)
	if !ok || len(l) != n*n || !proof.Proves(n, n, rules, n*n-1, 7, l...) {
		t.Error(len(l), ok)
	}
	if _, ok := proof.Why(n, n, rules, n*n-1, 8); ok {
		t.Error("8 is in")
	}
	rules = []api.Rule{member(0, 0), link(0, 0, 0)}
	for i := range n - 1 {
		rules = append(rules, member(i+1, i+2), member(i*1, i+1))
	}
	rules = slices.DeleteFunc(rules, func(r api.Rule) bool { return r.Kind == api.Member && r.Who >= n })
	for _, who := range []int{0, 1, n / 2, n - 1} {
		why(t, n, 1, rules, 0, who, true)
	}
}

// TestP9_2Crowd: all in all roles, by each kind of rule.
func TestP9_2Crowd(t *testing.T) {
	const prins, links = 12, 3
	var rules []api.Rule
	for role := range prins * links {
		for who := range prins {
			rules = append(rules, link(role, role, 1), both(role, role, (role+1)%(prins*links)), member(role, who), incl(role, (role+5)%(prins*links)))
		}
	}
	for role := range prins * links {
		for who := range prins {
			why(t, prins, links, rules, role, who, true)
		}
	}
}

// TestP9_2Apart: what is handed in isn't changed, nor kept, and each answer is new memory.
func TestP9_2Apart(t *testing.T) {
	room := []api.Rule{both(0, 5, 3), member(5, 2), incl(3, 4), member(4, 2), {Kind: 7}, {Kind: 8}, {Kind: 9}}
	rules, was := room[:4], slices.Clone(room)
	l, ok := proof.Why(3, 2, rules, 0, 2)
	if !ok || !slices.Equal(room, was) {
		t.Error("the rules aren't as they were")
	}
	again, _ := proof.Why(3, 2, rules, 0, 2)
	clear(again[:cap(again)])
	rules[1] = member(5, 1)
	if !proof.Proves(3, 2, was[:4], 0, 2, l...) {
		t.Error("the steps aren't as they were")
	}
	rules[1] = was[1]
	steps := append(slices.Clone(l), step(9, 9, 9), step(8, 8, 8))
	kept := slices.Clone(steps)
	if !proof.Check(3, 2, rules, steps[:len(l)]...) || !proof.Proves(3, 2, rules, 0, 2, steps[:len(l)]...) {
		t.Error("the steps don't prove it")
	}
	if got := proof.Uses(steps...); !slices.Equal(steps, kept) || !slices.Equal(room, was) || !slices.Equal(got, []int{0, 1, 2, 3, 8, 9}) {
		t.Error("the steps aren't as they were", got)
	}
	steps[0].Rule = 1
	used := proof.Uses(steps...)
	clear(used[:cap(used)])
	if steps[0].Rule != 1 || !slices.Equal(steps[1:], kept[1:]) {
		t.Error("an answer shares memory")
	}
}

// TestP9_2Same: one question has one answer, however often it is asked.
func TestP9_2Same(t *testing.T) {
	d := dice(92)
	for range 40 {
		rules := d.rules(40, 5, 3)
		for x := range least(5, 3, rules) {
			first, _ := proof.Why(5, 3, rules, x[0], x[1])
			for range 3 {
				if l, _ := proof.Why(5, 3, rules, x[0], x[1]); !slices.Equal(l, first) {
					t.Fatal("there are two answers:", l, first)
				}
			}
		}
	}
}
