package table_test

import (
	"math"
	"slices"
	"strconv"
	"strings"
	"testing"

	"crupper/api"
	"crupper/names"
	"crupper/policy"
	"crupper/syn"
	"crupper/table"
)

func role(owner, name string) api.Role { return api.Role{Owner: owner, Name: name} }

func member(head api.Role, who string) api.Stmt {
	return api.Stmt{Kind: api.Member, Head: head, Who: who}
}

func incl(head, a api.Role) api.Stmt { return api.Stmt{Kind: api.Incl, Head: head, A: a} }

func link(head, a api.Role, via string) api.Stmt {
	return api.Stmt{Kind: api.Link, Head: head, A: a, Via: via}
}

func both(head, a, b api.Role) api.Stmt { return api.Stmt{Kind: api.Both, Head: head, A: a, B: b} }

var (
	ar = role("A", "r")
	as = role("A", "s")
	br = role("B", "r")
	bs = role("B", "s")
)

var wrongKinds = []int{0, -1, 5, 6, 257, 260, math.MinInt, math.MaxInt}

func words(s string) []string { return strings.Fields(s) }

// of is the table of these principals and names, which stand between blanks.
func of(prins, links string) *table.Table { return table.New(words(prins), words(links)) }

// has holds a table against all principals and names that it is to have, in order.
func has(t *testing.T, what string, got *table.Table, prins, links []string) {
	t.Helper()
	if got.Prins() == nil || got.Links() == nil {
		t.Fatalf("%s: no table", what)
	}
	if !slices.Equal(got.Prins().All(), prins) || !slices.Equal(got.Links().All(), links) {
		t.Fatalf("%s: %q and %q, not %q and %q", what, got.Prins().All(), got.Links().All(), prins, links)
	}
	if got.Roles() != len(prins)*len(links) {
		t.Errorf("%s: %d roles", what, got.Roles())
	}
	n := 0
	for _, owner := range prins {
		for _, name := range links {
			if r := role(owner, name); got.Role(r) != n || got.RoleAt(n) != r {
				t.Errorf("%s: %v is %d, and %d is %v", what, r, got.Role(r), n, got.RoleAt(n))
			}
			n++
		}
	}
	for _, i := range []int{-1, n, n + 1, -n - 1, math.MinInt, math.MaxInt} {
		if got.RoleAt(i) != (api.Role{}) {
			t.Errorf("%s: %d is %v", what, i, got.RoleAt(i))
		}
	}
}

func TestP6_1New(t *testing.T) {
	has(t, "none", table.New(nil, nil), nil, nil)
	has(t, "no lists", table.New([]string{}, []string{}), nil, nil)
	has(t, "no names", of("A B", ""), words("A B"), nil)
	has(t, "no principals", of("", "r s"), nil, words("r s"))
	has(t, "one of each", of("A", "r"), words("A"), words("r"))
	has(t, "the example", of("A B", "r s"), words("A B"), words("r s"))
	has(t, "more principals", of("A B C D E", "r s"), words("A B C D E"), words("r s"))
	has(t, "more names", of("A B", "r s t u v"), words("A B"), words("r s t u v"))
	has(t, "in any order", of("C A B", "t r s"), words("A B C"), words("r s t"))
	has(t, "doubled", of("B A B A", "s r s r s"), words("A B"), words("r s"))
	has(t, "by bytes", of("B A10 A2 Ab AB", "s r10 r2 rb rB"), words("A10 A2 AB Ab B"), words("r10 r2 rB rb s"))
	has(t, "what is none", table.New([]string{"B", "a", ""}, []string{"s", "R", ""}), []string{"", "B", "a"}, []string{"", "R", "s"})
}

func TestP6_1Many(t *testing.T) {
	var prins, links []string
	for i := range 130 {
		prins, links = append(prins, "P"+strconv.Itoa(1000+i)), append(links, "n"+strconv.Itoa(1000+i))
	}
	has(t, "many", table.New(prins, links), prins, links)
}

// TestP6_1Role: what isn't in, or not at its place, has no number.
func TestP6_1Role(t *testing.T) {
	l := of("B D", "r t")
	for _, r := range []api.Role{{}, role("A", "r"), role("C", "r"), role("E", "r"), role("B", "q"), role("B", "s"), role("B", "u"), role("A", "s"), role("r", "B"), role("B", "D"), role("r", "t"), role("B", ""), role("", "r"), role("b", "r"), role("B", "R"), role("B ", "r")} {
		if l.Role(r) != -1 {
			t.Errorf("%v is %d", r, l.Role(r))
		}
	}
	if n := of("A B", "r s").Role(br); n != 2 {
		t.Errorf("the example: %d", n)
	}
	for _, l := range []*table.Table{of("A", ""), of("", "r"), of("", "")} {
		if l.Role(ar) != -1 || l.Role(api.Role{}) != -1 {
			t.Errorf("%v is %d", ar, l.Role(ar))
		}
	}
}

func TestP6_1For(t *testing.T) {
	full := api.Policy{
		Stmts:  []api.Stmt{member(role("C", "c"), "B"), incl(role("C", "c"), role("D", "d")), link(role("C", "c"), role("D", "d"), "z"), both(role("C", "c"), role("E", "e"), role("F", "f"))},
		Grow:   []api.Role{role("G", "g")},
		Shrink: []api.Role{role("H", "h")},
		Asks:   []api.Query{{Kind: api.AskHas, A: role("I", "i"), Who: words("J")}, {Kind: api.AskIn, A: role("K", "k"), B: role("L", "l")}},
	}
	prins, links := words("B C D E F G H I J K L"), words("c d e f g h i k l z")
	has(t, "a policy", table.For(full), prins, links)
	has(t, "no more", table.For(full, []string{}...), prins, links)
	has(t, "and more", table.For(full, "X2", "A", "X1", "A", "B"), words("A B C D E F G H I J K L X1 X2"), links)
	has(t, "no policy", table.For(api.Policy{}), nil, nil)
	has(t, "more alone", table.For(api.Policy{}, "X2", "X1", "X2"), words("X1 X2"), nil)
	has(t, "a name is no principal", table.For(api.Policy{Grow: []api.Role{ar}}, "s"), words("A s"), words("r"))
	p, fault := policy.Parse("B.s <- C.t.r\ngrow A.r\nshrink A.q\nalways A.r within E D\n")
	if fault != (api.Fault{}) {
		t.Fatal(fault)
	}
	has(t, "a text", table.For(p, names.New(policy.Prins(p)...).Fresh(2)...), words("A B C D E X1 X2"), words("q r s t"))
	has(t, "what isn't right", table.For(api.Policy{Shrink: []api.Role{{}, role("a", "R")}}, ""), []string{"", "a"}, []string{"", "R"})
}

func TestP6_1Nil(t *testing.T) {
	var l *table.Table
	has(t, "nil", l, nil, nil)
	if l.Role(ar) != -1 || l.Role(api.Role{}) != -1 || l.RoleAt(0) != (api.Role{}) {
		t.Error("a role")
	}
	if r, ok := l.Rule(member(ar, "A")); ok || r != (api.Rule{}) {
		t.Error(r, ok)
	}
	if s, ok := l.Stmt(api.Rule{Kind: api.Member}); ok || s != (api.Stmt{}) {
		t.Error(s, ok)
	}
	if len(l.Rules(member(ar, "A"), incl(ar, bs))) != 0 {
		t.Error(l.Rules(member(ar, "A")))
	}
}

// TestP6_1Apart: what is handed in stays, and isn't kept; what is answered changes nothing.
func TestP6_1Apart(t *testing.T) {
	prins, links, more := words("C A C B spare"), words("s r s t spare"), words("X2 X1 spare")
	p := api.Policy{Grow: []api.Role{ar, bs}}
	l, m := table.New(prins[:4], links[:4]), table.For(p, more[:2]...)
	if !slices.Equal(prins, words("C A C B spare")) || !slices.Equal(links, words("s r s t spare")) || !slices.Equal(more, words("X2 X1 spare")) || !slices.Equal(p.Grow, []api.Role{ar, bs}) {
		t.Error("what was handed in is changed:", prins, links, more, p)
	}
	clear(prins)
	clear(links)
	clear(more)
	clear(p.Grow)
	has(t, "New", l, words("A B C"), words("r s t"))
	has(t, "For", m, words("A B X1 X2"), words("r s"))
	l.Prins().All()[0] = "Z"
	if l.Prins().With("Z").Len() != 4 || l.Links().With("z").Len() != 4 {
		t.Error("With")
	}
	has(t, "when it was used", l, words("A B C"), words("r s t"))
	given := []api.Stmt{member(as, "B"), both(ar, bs, as), member(as, "B"), {Kind: api.Incl}}
	rules := l.Rules(given[:2]...)
	if !slices.Equal(given, []api.Stmt{member(as, "B"), both(ar, bs, as), member(as, "B"), {Kind: api.Incl}}) {
		t.Error("what was handed in is changed:", given)
	}
	clear(rules)
	if got := l.Rules(given[:1]...); len(got) != 1 || got[0] == (api.Rule{}) {
		t.Error("rules are shared:", got)
	}
}

// numbered are statements, and their rules in the table of A, B, C and r, s.
var numbered = []struct {
	s api.Stmt
	r api.Rule
}{
	{member(ar, "A"), api.Rule{Kind: 1}},
	{member(ar, "B"), api.Rule{Kind: 1, Who: 1}},
	{member(role("C", "s"), "C"), api.Rule{Kind: 1, Head: 5, Who: 2}},
	{member(as, "C"), api.Rule{Kind: 1, Head: 1, Who: 2}},
	{incl(ar, ar), api.Rule{Kind: 2}},
	{incl(bs, role("C", "s")), api.Rule{Kind: 2, Head: 3, A: 5}},
	{incl(role("C", "r"), as), api.Rule{Kind: 2, Head: 4, A: 1}},
	{link(ar, ar, "r"), api.Rule{Kind: 3}},
	{link(br, as, "s"), api.Rule{Kind: 3, Head: 2, A: 1, Via: 1}},
	{link(as, role("C", "s"), "r"), api.Rule{Kind: 3, Head: 1, A: 5}},
	{both(ar, ar, ar), api.Rule{Kind: 4}},
	{both(ar, as, br), api.Rule{Kind: 4, A: 1, B: 2}},
	{both(role("C", "s"), ar, role("C", "s")), api.Rule{Kind: 4, Head: 5, B: 5}},
	{both(bs, bs, role("C", "r")), api.Rule{Kind: 4, Head: 3, A: 3, B: 4}},
}

func TestP6_2Rule(t *testing.T) {
	l := of("A B C", "r s")
	for _, c := range numbered {
		if r, ok := l.Rule(c.s); !ok || r != c.r {
			t.Errorf("%v: %v %v, not %v", c.s, r, ok, c.r)
		}
		if s, ok := l.Stmt(c.r); !ok || s != c.s {
			t.Errorf("%v: %v %v, not %v", c.r, s, ok, c.s)
		}
	}
}

// TestP6_2RuleNone: what isn't right, or isn't all in, has no rule.
func TestP6_2RuleNone(t *testing.T) {
	l := table.New([]string{"A", "B", "b", ""}, []string{"r", "s", "R", ""})
	z := role("Z", "r")
	none := []api.Stmt{
		{}, both(ar, bs, ar), both(ar, br, as), // the parts of a both in a wrong order
		member(z, "A"), member(role("A", "z"), "A"), member(ar, "Z"), member(ar, ""), member(ar, "b"), member(api.Role{}, "A"), member(role("b", "r"), "A"), member(role("A", "R"), "A"),
		incl(z, ar), incl(role("A", "z"), ar), incl(ar, z), incl(ar, role("A", "z")), incl(ar, api.Role{}), incl(ar, role("b", "r")), incl(ar, role("A", "R")),
		link(z, ar, "r"), link(ar, z, "r"), link(ar, role("A", "z"), "r"), link(ar, ar, "z"), link(ar, ar, ""), link(ar, ar, "R"), link(ar, api.Role{}, "r"), link(ar, z, "z"),
		both(z, ar, bs), both(ar, ar, z), both(ar, role("A", "z"), bs), both(ar, role("AA", "r"), bs), both(ar, ar, api.Role{}), both(ar, api.Role{}, ar),
		{Kind: api.Member, Head: ar, Who: "A", A: ar}, {Kind: api.Member, Head: ar, Who: "A", B: ar}, {Kind: api.Member, Head: ar, Who: "A", Via: "r"},
		{Kind: api.Incl, Head: ar, A: ar, Who: "A"}, {Kind: api.Incl, Head: ar, A: ar, B: ar}, {Kind: api.Incl, Head: ar, A: ar, Via: "r"},
		{Kind: api.Link, Head: ar, A: ar, Via: "r", Who: "A"}, {Kind: api.Link, Head: ar, A: ar, Via: "r", B: ar},
		{Kind: api.Both, Head: ar, A: ar, B: bs, Who: "A"}, {Kind: api.Both, Head: ar, A: ar, B: bs, Via: "r"},
	}
	for _, kind := range wrongKinds {
		none = append(none, api.Stmt{Kind: kind, Head: ar}, api.Stmt{Kind: kind, Head: ar, Who: "A"}, api.Stmt{Kind: kind, Head: ar, A: ar}, api.Stmt{Kind: kind, Head: ar, A: ar, Via: "r"}, api.Stmt{Kind: kind, Head: ar, A: ar, B: bs})
	}
	for _, s := range none {
		if r, ok := l.Rule(s); ok || r != (api.Rule{}) {
			t.Errorf("%v: %v %v", s, r, ok)
		}
	}
	if got := l.Rules(none...); len(got) != 0 {
		t.Errorf("%v", got)
	}
	for _, few := range []*table.Table{of("A B", ""), of("", "r s"), of("", "")} {
		for _, c := range numbered {
			if r, ok := few.Rule(c.s); ok || r != (api.Rule{}) {
				t.Errorf("%v: %v %v", c.s, r, ok)
			}
		}
	}
}

// TestP6_2Rules: in the order in which they come, as often as they come, without those that have none.
func TestP6_2Rules(t *testing.T) {
	l := of("A B C", "r s")
	var given []api.Stmt
	var want []api.Rule
	for i := range numbered {
		c := numbered[len(numbered)-1-i]
		given = append(given, c.s, member(role("Z", "r"), "A"), c.s, both(ar, bs, ar), api.Stmt{})
		want = append(want, c.r, c.r)
	}
	if got := l.Rules(given...); !slices.Equal(got, want) {
		t.Errorf("%v, not %v", got, want)
	}
	if len(l.Rules()) != 0 || len(l.Rules([]api.Stmt{}...)) != 0 {
		t.Error("of none")
	}
}

// all are the statements that are right, of these principals and names.
func all(prins, links []string) []api.Stmt {
	var roles []api.Role
	for _, owner := range prins {
		for _, name := range links {
			roles = append(roles, role(owner, name))
		}
	}
	var l []api.Stmt
	for _, head := range roles {
		for _, who := range prins {
			l = append(l, member(head, who))
		}
		for _, a := range roles {
			l = append(l, incl(head, a))
			for _, via := range links {
				l = append(l, link(head, a, via))
			}
			for _, b := range roles {
				if !syn.Less(b, a) {
					l = append(l, both(head, a, b))
				}
			}
		}
	}
	return l
}

func swapped(r api.Rule) api.Rule {
	r.A, r.B = r.B, r.A
	return r
}

// TestP6_2Right: a rule is right just if some statement has it, but that a both's parts may stand in any order; all rules of few numbers are asked, and what Stmt makes of them.
func TestP6_2Right(t *testing.T) {
	for prins := range 4 {
		for links := range 3 {
			owners, named := words("A B C")[:prins], words("r s")[:links]
			l := table.New(owners, named)
			told := map[api.Rule]api.Stmt{}
			for _, s := range all(owners, named) {
				r, ok := l.Rule(s)
				if !ok {
					t.Fatalf("%v has no rule", s)
				}
				told[r] = s
				if s.Kind == api.Both {
					told[swapped(r)] = s
				}
			}
			each(-1, prins*links, func(r api.Rule) {
				want, right := told[r]
				if table.Right(prins, links, r) != right {
					t.Errorf("%d, %d: %v is right: %v", prins, links, r, !right)
				}
				if s, ok := l.Stmt(r); ok != right || s != want {
					t.Errorf("%d, %d: %v: %v %v, not %v", prins, links, r, s, ok, want)
				}
			})
		}
	}
}

// each hands on all rules whose numbers are from low to high, and whose kinds are from low to 5.
func each(low, high int, do func(r api.Rule)) {
	count := high - low + 1
	for n := range count * count * count * count * count {
		next := func() int {
			i := n % count
			n /= count
			return low + i
		}
		r := api.Rule{Head: next(), Who: next(), A: next(), B: next(), Via: next()}
		for kind := low; kind <= 5; kind++ {
			r.Kind = kind
			do(r)
		}
	}
}

// TestP6_2RightEdges: the numbers next to the greatest that may be, and counts next to the greatest.
func TestP6_2RightEdges(t *testing.T) {
	for _, n := range [][2]int{{1000, 1000}, {1, 1000}, {1000, 1}, {1000, 3}, {7, 1000}, {16, 12}, {64, 64}} {
		prins, links := n[0], n[1]
		roles := prins * links
		for _, c := range []struct {
			kind int
			part string
			most int
		}{
			{api.Member, "head", roles}, {api.Incl, "head", roles}, {api.Link, "head", roles}, {api.Both, "head", roles},
			{api.Member, "who", prins}, {api.Member, "a", 1}, {api.Member, "b", 1}, {api.Member, "via", 1},
			{api.Incl, "who", 1}, {api.Incl, "a", roles}, {api.Incl, "b", 1}, {api.Incl, "via", 1},
			{api.Link, "who", 1}, {api.Link, "a", roles}, {api.Link, "b", 1}, {api.Link, "via", links},
			{api.Both, "who", 1}, {api.Both, "a", roles}, {api.Both, "b", roles}, {api.Both, "via", 1},
			{0, "head", 0}, {5, "head", 0}, {-1, "who", 0}, {math.MaxInt, "a", 0}, {257, "who", 0},
		} {
			for _, i := range []int{math.MinInt, -roles, -1, 0, 1, c.most - 1, c.most, c.most + 1, prins, links, roles, 1 << 32, math.MaxInt} {
				r := api.Rule{Kind: c.kind}
				*map[string]*int{"head": &r.Head, "who": &r.Who, "a": &r.A, "b": &r.B, "via": &r.Via}[c.part] = i
				if want := i >= 0 && i < c.most; table.Right(prins, links, r) != want {
					t.Errorf("%d, %d: %v is right: %v", prins, links, r, !want)
				}
			}
		}
	}
}

func TestP6_2RightCounts(t *testing.T) {
	for _, n := range []int{math.MinInt, -1 << 32, -1000, -2, -1, 0, 1001, 1002, 5000, 1 << 32, math.MaxInt} {
		for _, m := range []int{1, 7, 1000, n} {
			for kind := range 6 {
				if r := (api.Rule{Kind: kind}); table.Right(n, m, r) || table.Right(m, n, r) {
					t.Errorf("%d, %d: %v is right", n, m, r)
				}
			}
		}
	}
	for kind := api.Member; kind <= api.Both; kind++ {
		if r := (api.Rule{Kind: kind}); !table.Right(1, 1, r) || !table.Right(1000, 1, r) || !table.Right(1, 1000, r) || !table.Right(1000, 1000, r) {
			t.Errorf("%v isn't right", r)
		}
	}
}

// TestP6_2StmtMany: a table as great as Right can tell of, and one that is greater.
func TestP6_2StmtMany(t *testing.T) {
	var prins []string
	for i := range 1001 {
		prins = append(prins, "P"+strconv.Itoa(1000+i))
	}
	r := api.Rule{Kind: api.Member, Head: 999, Who: 998}
	s := member(role("P1999", "r"), "P1998")
	l := table.New(prins[:1000], words("r"))
	if got, ok := l.Stmt(r); !ok || got != s {
		t.Error(got, ok)
	}
	if got, ok := l.Rule(s); !ok || got != r {
		t.Error(got, ok)
	}
	more := table.New(prins, words("r"))
	if got, ok := more.Stmt(r); ok || got != (api.Stmt{}) {
		t.Error(got, ok)
	}
	if got, ok := more.Rule(s); !ok || got != r {
		t.Error(got, ok)
	}
}

// TestP6_2StmtNormal: the parts of a both stand by Less, in whatever order the rule has them.
func TestP6_2StmtNormal(t *testing.T) {
	l := of("A B", "r s")
	for _, c := range []struct {
		a, b int
		want api.Stmt
	}{{2, 1, both(bs, as, br)}, {1, 2, both(bs, as, br)}, {3, 0, both(bs, ar, bs)}, {1, 0, both(bs, ar, as)}, {2, 2, both(bs, br, br)}} {
		if s, ok := l.Stmt(api.Rule{Kind: api.Both, Head: 3, A: c.a, B: c.b}); !ok || s != c.want {
			t.Errorf("%d, %d: %v %v, not %v", c.a, c.b, s, ok, c.want)
		}
	}
}

func TestP6_3Undo(t *testing.T) {
	prins, links := words("A A0 AA B"), words("r r0 s")
	l := table.New(prins, links)
	seen := map[api.Rule]bool{}
	for _, s := range all(prins, links) {
		r, ok := l.Rule(s)
		if !ok || seen[r] || !table.Right(len(prins), len(links), r) {
			t.Fatalf("%v: %v %v", s, r, ok)
		}
		seen[r] = true
		if back, ok := l.Stmt(r); !ok || back != s {
			t.Errorf("%v: %v: %v %v", s, r, back, ok)
		}
	}
	for r := range seen {
		s, _ := l.Stmt(r)
		if back, ok := l.Rule(s); !ok || back != r {
			t.Errorf("%v: %v: %v %v", r, s, back, ok)
		}
	}
}

// TestP6_3Policy: all statements of a policy have rules in its table, whoever comes beside.
func TestP6_3Policy(t *testing.T) {
	p, fault := policy.Parse("A.r <- B\nA.r <- B.s\nA.r <- B.s.t\nA.r <- C.t & B.s\nB.s <- Dora\nC.t <- A.r.owner\ngrow E.u\nalways A.r in F.v\n")
	if fault != (api.Fault{}) {
		t.Fatal(fault)
	}
	for _, more := range [][]string{nil, {"X1"}, {"A0", "Z", "X1", "X2", "X3", "X4"}} {
		l := table.For(p, more...)
		rules := l.Rules(p.Stmts...)
		if len(rules) != len(p.Stmts) {
			t.Fatal(rules)
		}
		for i, r := range rules {
			if s, ok := l.Stmt(r); !ok || s != p.Stmts[i] {
				t.Errorf("%v: %v, not %v", r, s, p.Stmts[i])
			}
		}
	}
}
