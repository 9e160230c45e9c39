package live_test

import (
	"math"
	"slices"
	"testing"

	"crupper/api"
	"crupper/live"
	"crupper/plain"
	"crupper/sem"
	"crupper/table"
)

// The kinds of rules, by their numbers.
var (
	member = plain.MemberRule
	incl   = plain.InclRule
	link   = plain.LinkRule
	both   = plain.BothRule
)

// wrong are rules that aren't right, of so many principals and names, most of them but just; there is a role at least.
func wrong(prins, links int) []api.Rule {
	n := prins * links
	l := []api.Rule{
		{}, {Kind: 5}, {Kind: -1}, {Kind: math.MaxInt}, {Kind: math.MinInt, Head: 1},
		member(n, 0), member(-1, 0), member(0, prins), member(0, -1), member(math.MaxInt, 0), member(0, math.MinInt),
		incl(n, 0), incl(0, n), incl(-1, 0), incl(0, -1), incl(0, math.MaxInt),
		link(n, 0, 0), link(0, n, 0), link(0, 0, links), link(-1, 0, 0), link(0, -1, 0), link(0, 0, -1), link(0, 0, math.MinInt),
		both(n, 0, 0), both(0, n, 0), both(0, 0, n), both(-1, 0, 0), both(0, -1, 0), both(0, 0, -1), both(0, math.MinInt, math.MaxInt),
		{Kind: api.Member, A: 1}, {Kind: api.Member, B: 1}, {Kind: api.Member, Via: 1},
		{Kind: api.Incl, Who: 1}, {Kind: api.Incl, B: 1}, {Kind: api.Incl, Via: 1},
		{Kind: api.Link, Who: 1}, {Kind: api.Link, B: 1}, {Kind: api.Both, Who: 1}, {Kind: api.Both, Via: 1},
	}
	return l
}

// outside are places that there aren't, of so many.
func outside(n int) []int {
	return []int{math.MinInt, -4096, -n - 1, -1, n, n + 1, n + 64, 4096 + n, 1 << 32, math.MaxInt}
}

// has holds l against all that is to be told of it.
func has(t *testing.T, what string, l *live.Live, prins, links int, rules []api.Rule, want plain.Pairs) {
	t.Helper()
	if got := l.Rules(); !slices.Equal(got, rules) {
		t.Errorf("%s: the rules are %v, not %v", what, got, rules)
	}
	if got := l.Len(); got != len(want) {
		t.Errorf("%s: %v has %d pairs, not %d", what, rules, got, len(want))
	}
	for role := range prins * links {
		var all []int
		for who := range prins {
			if is := want.Has(role, who); l.In(role, who) != is {
				t.Errorf("%s: by %v is %d in %d: %v", what, rules, who, role, !is)
			} else if is {
				all = append(all, who)
			}
		}
		if got := l.Members(role); !slices.Equal(got, all) {
			t.Errorf("%s: by %v are in %d %v, not %v", what, rules, role, got, all)
		}
		for _, who := range outside(prins) {
			if l.In(role, who) {
				t.Errorf("%s: %d is in %d", what, who, role)
			}
		}
	}
	for _, role := range outside(prins * links) {
		if len(l.Members(role)) != 0 || l.In(role, 0) || l.In(role, -1) || l.In(role, prins-1) {
			t.Errorf("%s: there is a role %d", what, role)
		}
	}
}

// add adds a rule that is to be taken, and says what is wrong with what it brings; what is so then.
func add(t *testing.T, l *live.Live, prins, links int, rules []api.Rule, before plain.Pairs, r api.Rule) ([]api.Rule, plain.Pairs) {
	t.Helper()
	rules = append(slices.Clone(rules), r)
	after := plain.LeastPairs(prins, links, rules)
	if came, why := l.Add(r); why != api.OK || !slices.Equal(came, after.Without(before)) {
		t.Errorf("%v, the last one added: %v, %d, not %v", rules, came, why, after.Without(before))
	}
	return rules, after
}

// drop drops the rule at that place, and says what is wrong with what goes; what is so then.
func drop(t *testing.T, l *live.Live, prins, links int, rules []api.Rule, before plain.Pairs, at int) ([]api.Rule, plain.Pairs) {
	t.Helper()
	r := rules[at]
	rest := slices.Delete(slices.Clone(rules), at, at+1)
	after := plain.LeastPairs(prins, links, rest)
	if went, why := l.Drop(r); why != api.OK || !slices.Equal(went, before.Without(after)) {
		t.Errorf("%v, %v dropped: %v, %d, not %v", rules, r, went, why, before.Without(after))
	}
	return rest, after
}

// said is one call of a row of calls: a rule that is added, or dropped, and what that answers.
type said struct {
	drop  bool
	r     api.Rule
	pairs [][2]int
	why   api.Errno
}

// Of the principals A, B, C (0 to 2) and the names r, s (0, 1): A.r 0, A.s 1, B.r 2, B.s 3, C.r 4, C.s 5.
var told = []struct {
	what string
	l    []said
}{
	{"the chapter's example", []said{{r: member(3, 2), pairs: [][2]int{{3, 2}}}, {r: incl(0, 3), pairs: [][2]int{{0, 2}}}}},
	{"the other way round", []said{{r: incl(0, 3)}, {r: member(3, 2), pairs: [][2]int{{0, 2}, {3, 2}}}}},
	{"by the role, then by who", []said{{r: incl(0, 3)}, {r: member(3, 2), pairs: [][2]int{{0, 2}, {3, 2}}}, {r: member(3, 1), pairs: [][2]int{{0, 1}, {3, 1}}}, {r: incl(2, 3), pairs: [][2]int{{2, 1}, {2, 2}}}}},
	{"what came goes", []said{{r: incl(0, 3)}, {r: member(3, 2), pairs: [][2]int{{0, 2}, {3, 2}}}, {drop: true, r: member(3, 2), pairs: [][2]int{{0, 2}, {3, 2}}}}},
	{"what has two grounds stays", []said{{r: member(3, 2), pairs: [][2]int{{3, 2}}}, {r: incl(0, 3), pairs: [][2]int{{0, 2}}}, {r: member(0, 2)}, {drop: true, r: member(3, 2), pairs: [][2]int{{3, 2}}}, {drop: true, r: member(0, 2), pairs: [][2]int{{0, 2}}}}},
	{"what stands on itself goes", []said{{r: incl(0, 3)}, {r: incl(3, 0)}, {r: member(3, 2), pairs: [][2]int{{0, 2}, {3, 2}}}, {drop: true, r: member(3, 2), pairs: [][2]int{{0, 2}, {3, 2}}}}},
	{"a link, whose first role comes last", []said{{r: link(0, 3, 0)}, {r: member(4, 1), pairs: [][2]int{{4, 1}}}, {r: member(3, 2), pairs: [][2]int{{0, 1}, {3, 2}}}}},
	{"a link, whose second role comes last", []said{{r: link(0, 3, 0)}, {r: member(3, 2), pairs: [][2]int{{3, 2}}}, {r: member(4, 1), pairs: [][2]int{{0, 1}, {4, 1}}}}},
	{"a link that comes last", []said{{r: member(3, 2), pairs: [][2]int{{3, 2}}}, {r: member(4, 1), pairs: [][2]int{{4, 1}}}, {r: link(0, 3, 0), pairs: [][2]int{{0, 1}}}}},
	{"a link of a role that it links", []said{{r: link(0, 0, 0)}, {r: member(4, 1), pairs: [][2]int{{4, 1}}}, {r: member(2, 0), pairs: [][2]int{{2, 0}}}, {r: member(0, 2), pairs: [][2]int{{0, 0}, {0, 1}, {0, 2}}}}},
	{"both", []said{{r: both(0, 3, 5)}, {r: member(3, 2), pairs: [][2]int{{3, 2}}}, {r: member(5, 1), pairs: [][2]int{{5, 1}}}, {r: member(5, 2), pairs: [][2]int{{0, 2}, {5, 2}}}}},
	{"both, that comes last", []said{{r: member(3, 2), pairs: [][2]int{{3, 2}}}, {r: member(3, 1), pairs: [][2]int{{3, 1}}}, {r: member(5, 2), pairs: [][2]int{{5, 2}}}, {r: both(0, 5, 3), pairs: [][2]int{{0, 2}}}}},
	{"once more", []said{{r: member(3, 2), pairs: [][2]int{{3, 2}}}, {r: member(3, 2), why: api.ErrMany}, {drop: true, r: member(3, 2), pairs: [][2]int{{3, 2}}}, {drop: true, r: member(3, 2), why: api.ErrNone}, {r: member(3, 2), pairs: [][2]int{{3, 2}}}}},
	{"roles the other way round are another rule", []said{{r: both(0, 3, 5)}, {drop: true, r: both(0, 5, 3), why: api.ErrNone}, {r: both(0, 5, 3)}, {r: both(0, 5, 3), why: api.ErrMany}}},
	{"what isn't right", []said{{r: api.Rule{}, why: api.ErrArg}, {r: member(6, 0), why: api.ErrArg}, {r: member(0, 3), why: api.ErrArg}, {drop: true, r: member(6, 0), why: api.ErrNone}, {drop: true, r: api.Rule{}, why: api.ErrNone}, {drop: true, r: member(0, 0), why: api.ErrNone}}},
}

func TestP43_2Told(t *testing.T) {
	for _, c := range told {
		l := live.New(3, 2)
		var rules []api.Rule
		for _, s := range c.l {
			call := l.Add
			if s.drop {
				call = l.Drop
			}
			if got, why := call(s.r); why != s.why || !slices.Equal(got, s.pairs) {
				t.Errorf("%s: %v: %v, %d", c.what, s, got, why)
			}
			switch {
			case s.why != api.OK:
			case s.drop:
				rules = slices.DeleteFunc(rules, func(r api.Rule) bool { return r == s.r })
			default:
				rules = append(rules, s.r)
			}
			has(t, c.what, l, 3, 2, rules, plain.LeastPairs(3, 2, rules))
		}
	}
}

// TestP43_1New: counts below 0 are none, those above 64 are 64.
func TestP43_1New(t *testing.T) {
	for _, c := range []struct{ asked, want int }{{math.MinInt, 0}, {-1, 0}, {0, 0}, {1, 1}, {2, 2}, {63, 63}, {64, 64}, {65, 64}, {128, 64}, {1000, 64}, {1 << 32, 64}, {math.MaxInt, 64}} {
		for _, d := range []struct{ asked, want int }{{math.MinInt, 0}, {-1, 0}, {0, 0}, {1, 1}, {3, 3}, {63, 63}, {64, 64}, {65, 64}, {1001, 64}, {math.MaxInt, 64}} {
			prins, links := c.want, d.want
			l := live.New(c.asked, d.asked)
			if l == nil || l.Len() != 0 || len(l.Rules()) != 0 {
				t.Fatalf("%d, %d: there is something", c.asked, d.asked)
			}
			last, who, via := prins*links-1, prins-1, links-1
			for _, r := range []api.Rule{member(last+1, 0), member(0, who+1), incl(0, last+1), incl(last+1, 0), link(0, 0, via+1), both(0, 0, last+1)} {
				if got, why := l.Add(r); why != api.ErrArg || len(got) != 0 {
					t.Errorf("%d, %d: %v: %v, %d", c.asked, d.asked, r, got, why)
				}
			}
			if prins == 0 || links == 0 {
				if _, why := l.Add(member(0, 0)); why != api.ErrArg || l.In(0, 0) || len(l.Members(0)) != 0 || l.Copy() == nil || l.Copy().Len() != 0 {
					t.Errorf("%d, %d: %d", c.asked, d.asked, why)
				}
				continue
			}
			// a link goes by how many names there are, as they are counted
			rules := []api.Rule{member(0, who), link(0, 0, via)}
			if last > 0 {
				rules = append(rules, member(last, 0))
			}
			for _, r := range rules {
				if _, why := l.Add(r); why != api.OK {
					t.Errorf("%d, %d: %v: %d", c.asked, d.asked, r, why)
				}
			}
			if want := slices.Compact([]int{0, who}); !slices.Equal(l.Members(0), want) || !l.In(last, 0) || !slices.Equal(l.Rules(), rules) {
				t.Errorf("%d, %d: in 0 are %v, not %v", c.asked, d.asked, l.Members(0), want)
			}
		}
	}
}

// TestP43_2Few: all rules in twos, behind others, added and dropped in each order.
func TestP43_2Few(t *testing.T) {
	for _, n := range [][2]int{{1, 1}, {1, 2}, {2, 1}, {2, 2}} {
		prins, links := n[0], n[1]
		all := plain.AllRules(prins, links)
		start := []api.Rule{member(0, prins-1), member(prins*links-1, 0)}
		for i, a := range all {
			for j, b := range all {
				if i == j || prins*links > 2 && (i+j)%7 != 0 {
					continue
				}
				l := live.New(prins, links)
				var rules []api.Rule
				m := plain.Pairs{}
				for _, r := range []api.Rule{a, start[0], b, start[1]} {
					if !slices.Contains(rules, r) {
						rules, m = add(t, l, prins, links, rules, m, r)
					}
				}
				has(t, "added", l, prins, links, rules, m)
				for k := (i + j) % 4; len(rules) > 0; k += i {
					rules, m = drop(t, l, prins, links, rules, m, k%len(rules))
				}
				has(t, "dropped", l, prins, links, nil, plain.Pairs{})
				if t.Failed() {
					return
				}
			}
		}
	}
}

// TestP43_2Drawn: rules come and go as they are drawn: each answer is held against a plain search.
func TestP43_2Drawn(t *testing.T) {
	d := plain.Dice(432)
	for range 150 {
		prins, links := d.Below(5)+1, d.Below(4)+1
		l := live.New(prins, links)
		var rules []api.Rule
		m := plain.Pairs{}
		for range 60 {
			r := d.Rule(prins, links)
			switch {
			case len(rules) > 0 && d.Below(3) == 0:
				rules, m = drop(t, l, prins, links, rules, m, d.Below(len(rules)))
			case slices.Contains(rules, r):
				if got, why := l.Add(r); why != api.ErrMany || len(got) != 0 {
					t.Fatalf("%v once more: %v, %d", r, got, why)
				}
			default:
				if got, why := l.Drop(r); why != api.ErrNone || len(got) != 0 {
					t.Fatalf("%v, that isn't in: %v, %d", r, got, why)
				}
				rules, m = add(t, l, prins, links, rules, m, r)
			}
			has(t, "drawn", l, prins, links, rules, m)
			if t.Failed() {
				return
			}
		}
	}
}

// TestP43_2Errors: of what isn't right is ErrArg, of more than there may be ErrMany, of what isn't in ErrNone: then nothing is changed.
func TestP43_2Errors(t *testing.T) {
	for _, n := range [][2]int{{2, 2}, {3, 2}, {4, 3}, {64, 64}} {
		l := live.New(n[0], n[1])
		rules, m := add(t, l, n[0], n[1], nil, plain.Pairs{}, member(3, 1))
		rules, m = add(t, l, n[0], n[1], rules, m, incl(0, 3))
		for _, r := range wrong(n[0], n[1]) {
			if table.Right(n[0], n[1], r) {
				t.Fatal("it is right:", r)
			}
			if got, why := l.Add(r); why != api.ErrArg || len(got) != 0 {
				t.Errorf("%v: %v, %d", r, got, why)
			}
			if got, why := l.Drop(r); why != api.ErrNone || len(got) != 0 {
				t.Errorf("%v: %v, %d", r, got, why)
			}
		}
		for _, r := range rules {
			if got, why := l.Add(r); why != api.ErrMany || len(got) != 0 {
				t.Errorf("%v once more: %v, %d", r, got, why)
			}
		}
		has(t, "after errors", l, n[0], n[1], rules, m)
	}
}

// TestP43_2Thousand: a thousand rules are taken, and no more, till one goes.
func TestP43_2Thousand(t *testing.T) {
	const prins, links, most = 40, 2, 1000
	l := live.New(prins, links)
	var rules []api.Rule
	for i := range most {
		r := incl(i%80, (i/80+i%80+1)%80)
		if _, why := l.Add(r); why != api.OK {
			t.Fatal(i, r, why)
		}
		rules = append(rules, r)
	}
	more := member(0, 7)
	if got, why := l.Add(more); why != api.ErrMany || len(got) != 0 || l.Len() != 0 || !slices.Equal(l.Rules(), rules) {
		t.Error("one more:", got, why)
	}
	if _, why := l.Add(rules[most-1]); why != api.ErrMany {
		t.Error("the last one once more:", why)
	}
	if _, why := l.Add(member(prins*links, 0)); why != api.ErrArg {
		t.Error("a wrong one:", why)
	}
	if got, why := l.Drop(rules[3]); why != api.OK || len(got) != 0 {
		t.Error("one less:", got, why)
	}
	rules = append(slices.Delete(rules, 3, 4), more)
	got, why := l.Add(more)
	if why != api.OK || len(got) != prins*links || !slices.IsSortedFunc(got, func(a, b [2]int) int { return a[0] - b[0] }) || !slices.Equal(l.Rules(), rules) {
		t.Error("one more, then:", got, why)
	}
	if _, why := l.Add(rules[0]); why != api.ErrMany {
		t.Error("a thousand:", why)
	}
	if _, why := l.Add(member(1, 7)); why != api.ErrMany {
		t.Error("a thousand, and one:", why)
	}
}

// TestP43_1Rules: in the order in which they came; one that went and came again is the last one.
func TestP43_1Rules(t *testing.T) {
	l := live.New(3, 2)
	came := []api.Rule{link(5, 1, 1), member(0, 0), both(2, 1, 0), incl(4, 4), member(0, 2), both(2, 0, 1)}
	for _, r := range came {
		l.Add(r)
	}
	for range 3 {
		for i := range came {
			r := came[i]
			l.Drop(r)
			came = append(slices.Delete(came, i, i+1), r)
			l.Add(r)
			if got := l.Rules(); !slices.Equal(got, came) {
				t.Fatalf("%v, not %v", got, came)
			}
		}
	}
}

// TestP43_1Copy: a copy has the same, and goes on alone.
func TestP43_1Copy(t *testing.T) {
	d := plain.Dice(431)
	for range 60 {
		prins, links := d.Below(4)+1, d.Below(3)+1
		l := live.New(prins, links)
		var rules []api.Rule
		for range d.Below(12) {
			if r := d.Rule(prins, links); !slices.Contains(rules, r) {
				l.Add(r)
				rules = append(rules, r)
			}
		}
		m := plain.LeastPairs(prins, links, rules)
		c := l.Copy()
		has(t, "a copy", c, prins, links, rules, m)
		other, is, copied, was := l, m, rules, rules
		for range 10 {
			if r := d.Rule(prins, links); !slices.Contains(was, r) {
				was, is = add(t, other, prins, links, was, is, r)
			}
			if len(was) > 0 && d.Below(2) == 0 {
				was, is = drop(t, other, prins, links, was, is, d.Below(len(was)))
			}
			has(t, "one", other, prins, links, was, is)
			has(t, "its copy", c, prins, links, copied, m)
		}
		was, is = copied, m
		kept, stays := l.Rules(), plain.LeastPairs(prins, links, l.Rules())
		for range 10 {
			if r := d.Rule(prins, links); !slices.Contains(was, r) {
				was, is = add(t, c, prins, links, was, is, r)
			}
			if len(was) > 0 && d.Below(2) == 0 {
				was, is = drop(t, c, prins, links, was, is, 0)
			}
			has(t, "a copy that goes on", c, prins, links, was, is)
			has(t, "the first one", l, prins, links, kept, stays)
		}
		if t.Failed() {
			return
		}
	}
}

func TestP43_2Nil(t *testing.T) {
	var l *live.Live
	for _, r := range append(plain.AllRules(1, 1), wrong(2, 2)...) {
		if got, why := l.Add(r); why != api.ErrArg || len(got) != 0 {
			t.Errorf("Add of %v: %v, %d", r, got, why)
		}
		if got, why := l.Drop(r); why != api.ErrNone || len(got) != 0 {
			t.Errorf("Drop of %v: %v, %d", r, got, why)
		}
	}
	if l.In(0, 0) || len(l.Members(0)) != 0 || len(l.Rules()) != 0 || l.Len() != 0 || l.Copy() != nil {
		t.Error("there is something in nil")
	}
}

// TestP43_3: in whatever order rules come, and whatever else came and went, the same are in; as layer 8 has it.
func TestP43_3(t *testing.T) {
	d := plain.Dice(433)
	for range 120 {
		prins, links := d.Below(6)+1, d.Below(4)+1
		var rules []api.Rule
		for range d.Below(3*prins*links) + 1 {
			if r := d.Rule(prins, links); !slices.Contains(rules, r) {
				rules = append(rules, r)
			}
		}
		m := sem.Eval(prins, links, rules...)
		for range 4 {
			for i := range rules {
				j := d.Below(i + 1)
				rules[i], rules[j] = rules[j], rules[i]
			}
			l := live.New(prins, links)
			pairs := 0
			for _, r := range rules {
				other := d.Rule(prins, links)
				passing := d.Below(4) == 0 && !slices.Contains(rules, other)
				if passing {
					came, _ := l.Add(other)
					pairs += len(came)
				}
				came, _ := l.Add(r)
				pairs += len(came)
				if passing {
					went, _ := l.Drop(other)
					pairs -= len(went)
				}
				if pairs != l.Len() {
					t.Fatalf("%v: %d pairs came, there are %d", rules, pairs, l.Len())
				}
			}
			total := 0
			for role := range prins * links {
				if !slices.Equal(l.Members(role), m.Members(role)) {
					t.Fatalf("%v: in %d are %v, not %v", rules, role, l.Members(role), m.Members(role))
				}
				total += len(m.Members(role))
			}
			if l.Len() != total {
				t.Fatalf("%v: %d pairs, not %d", rules, l.Len(), total)
			}
		}
	}
}

// TestP43_4: what came by an Add goes by a Drop of it, at once; then all is as it was.
func TestP43_4(t *testing.T) {
	d := plain.Dice(434)
	some := 0
	for range 400 {
		prins, links := d.Below(5)+1, d.Below(4)+1
		l := live.New(prins, links)
		for range d.Below(30) {
			l.Add(d.Rule(prins, links))
		}
		rules := l.Rules()
		m := plain.LeastPairs(prins, links, rules)
		for range 5 {
			r := d.Rule(prins, links)
			if slices.Contains(rules, r) {
				continue
			}
			came, _ := l.Add(r)
			went, why := l.Drop(r)
			if why != api.OK || !slices.Equal(came, went) {
				t.Fatalf("%v, %v: %v came, %v went", rules, r, came, went)
			}
			some += len(came)
		}
		if has(t, "after all", l, prins, links, rules, m); t.Failed() {
			return
		}
	}
	if some < 500 {
		t.Error("few came:", some)
	}
}

// TestP43_2Great: as many principals and names as there may be.
func TestP43_2Great(t *testing.T) {
	const n = 64
	l := live.New(n, n)
	// all of a role are in the one ahead of it; X0 comes into the last one of 900
	for role := range 900 {
		if _, why := l.Add(incl(role, role+1)); why != api.OK {
			t.Fatal(role, why)
		}
	}
	came, why := l.Add(member(900, 63))
	if why != api.OK || len(came) != 901 || came[0] != [2]int{0, 63} || came[900] != [2]int{900, 63} || l.Len() != 901 {
		t.Error(len(came), why)
	}
	went, why := l.Drop(incl(450, 451))
	if why != api.OK || len(went) != 451 || went[0] != [2]int{0, 63} || went[450] != [2]int{450, 63} || l.Len() != 450 {
		t.Error(len(went), why)
	}
	// each one's first role has the next one; the first one's last role has who is linked to it
	l = live.New(n, n)
	l.Add(link(n-1, n-1, 0))
	for who := range n - 1 {
		l.Add(member(who*n, who+1))
	}
	came, _ = l.Add(member(n-1, 0))
	if len(came) != n || came[0] != [2]int{n - 1, 0} || came[n-1] != [2]int{n - 1, n - 1} {
		t.Error("linked are", came)
	}
	went, _ = l.Drop(member(5*n, 6))
	if len(went) != n-5 || went[0] != [2]int{n - 1, 6} || went[n-6] != [2]int{5 * n, 6} {
		t.Error("not linked any more are", went)
	}
}

// TestP43_1Apart: what is answered is new memory, that neither changes what there is nor is changed.
func TestP43_1Apart(t *testing.T) {
	l := live.New(3, 2)
	l.Add(incl(0, 3))
	l.Add(both(1, 0, 3))
	came, _ := l.Add(member(3, 2))
	want := [][2]int{{0, 2}, {1, 2}, {3, 2}}
	rules, members := l.Rules(), l.Members(0)
	is := slices.Clone(rules)
	for _, x := range [][]api.Rule{l.Rules(), l.Rules()} {
		clear(x[:cap(x)])
		_ = append(x[:0], member(5, 0))
	}
	for _, x := range [][]int{l.Members(0), l.Members(3)} {
		x[0] = 1
		_ = append(x[:0], 0, 1)
	}
	has(t, "after answers were changed", l, 3, 2, is, plain.Pairs{{0, 2}: {}, {1, 2}: {}, {3, 2}: {}})
	_ = append(came, [2]int{5, 5})
	went, _ := l.Drop(incl(0, 3))
	l.Add(member(4, 1))
	if !slices.Equal(came, want) || !slices.Equal(went, [][2]int{{0, 2}, {1, 2}}) || !slices.Equal(rules, is) || !slices.Equal(members, []int{2}) {
		t.Error("answers aren't as they were:", came, went, rules, members)
	}
	clear(came)
	clear(went)
	l.Drop(member(4, 1))
	if l.Len() != 1 || !l.In(3, 2) {
		t.Error("answers are used")
	}
}
