package syn_test

import (
	"math"
	"slices"
	"strings"
	"testing"

	"crupper/api"
	"crupper/scan"
	"crupper/syn"
)

func role(owner, name string) api.Role { return api.Role{Owner: owner, Name: name} }

func member(head api.Role, who string) api.Stmt {
	return api.Stmt{Kind: api.Member, Head: head, Who: who}
}

func incl(head, a api.Role) api.Stmt { return api.Stmt{Kind: api.Incl, Head: head, A: a} }

func link(head, a api.Role, via string) api.Stmt {
	return api.Stmt{Kind: api.Link, Head: head, A: a, Via: via}
}

func both(head, a, b api.Role) api.Stmt {
	return api.Stmt{Kind: api.Both, Head: head, A: a, B: b}
}

var (
	ar = role("A", "r")
	as = role("A", "s")
	br = role("B", "r")
	bs = role("B", "s")
	ct = role("C", "t")
)

// wrongKinds are kinds of no statement.
var wrongKinds = []int{0, -1, 5, 6, 257, math.MinInt, math.MaxInt}

func TestP3_1IsRole(t *testing.T) {
	for _, owner := range []string{"A", "Bob", "B0b", "ABCDEFGH", "Z9"} {
		for _, name := range []string{"r", "bob", "bOB", "abcdefgh", "z9", "grow", "always"} {
			if !syn.IsRole(role(owner, name)) {
				t.Errorf("%q, %q is no role", owner, name)
			}
		}
		for _, name := range []string{"", "R", "A", "abcdefghi", "9", " r", "r ", "r.s", ".r", "r_", "é", "\xff"} {
			if syn.IsRole(role(owner, name)) {
				t.Errorf("%q, %q is a role", owner, name)
			}
		}
	}
	for _, owner := range []string{"", "a", "r", "ABCDEFGHI", "9", " A", "A ", "A.", "A.r", "A_", "É", "\xff"} {
		if syn.IsRole(role(owner, "r")) || syn.IsRole(role(owner, "")) {
			t.Errorf("%q, r is a role", owner)
		}
	}
	if syn.IsRole(api.Role{}) || syn.IsRole(role("r", "A")) {
		t.Error("a zero one, or one the wrong way round, is a role")
	}
}

func TestP3_1Less(t *testing.T) {
	rising := []api.Role{
		{}, role("", "A"), role("", "r"), role("9", "z"), role("A", ""), role("A", "A"), role("A", "b"), role("A", "r"), role("A", "r0"), role("A", "rA"), role("A", "ra"), role("A", "s"), role("A", "\xff"),
		role("A.r", ""), role("A0", "a"), role("A10", "a"), role("A9", "a"), role("AB", "a"), role("Ab", ""), role("B", "a"), role("a", "R"), role("é", "a"), role("\xff", ""),
	}
	for i, a := range rising {
		for j, b := range rising {
			if syn.Less(a, b) != (i < j) {
				t.Errorf("%q, %q: %v", a, b, syn.Less(a, b))
			}
		}
	}
}

func TestP3_1PrintRole(t *testing.T) {
	for _, c := range []struct {
		r    api.Role
		want string
	}{
		{ar, "A.r"},
		{role("ABCDEFGH", "abcdefgh"), "ABCDEFGH.abcdefgh"},
		{role("B0b", "r9"), "B0b.r9"},
		{api.Role{}, "."},
		{role("", "r"), ".r"},
		{role("A", ""), "A."},
		{role(" a", "B.c#\xff"), " a.B.c#\xff"},
	} {
		if got := syn.PrintRole(c.r); got != c.want {
			t.Errorf("%q: %q, not %q", c.r, got, c.want)
		}
	}
}

// sound are statements that are right, some of each kind.
var sound = []api.Stmt{
	member(ar, "B"), member(ar, "A"), member(role("ABCDEFGH", "abcdefgh"), "ABCDEFGH"),
	incl(ar, bs), incl(ar, ar), incl(bs, ar),
	link(ar, bs, "t"), link(ar, ar, "r"), link(bs, ar, "abcdefgh"),
	both(ar, bs, ct), both(ar, ar, as), both(ar, ar, br), both(ar, ar, ar), both(ct, bs, bs),
}

func TestP3_1Right(t *testing.T) {
	for _, s := range sound {
		if !syn.Right(s) {
			t.Errorf("%v isn't right", s)
		}
	}
	for _, s := range []api.Stmt{
		{}, {Kind: api.Member}, {Head: ar, Who: "B"}, {Kind: api.Member, Who: "B"},
		member(ar, ""), member(ar, "b"), member(ar, "ABCDEFGHI"), member(ar, "B.s"), member(role("a", "r"), "B"), member(role("A", "R"), "B"), member(api.Role{}, "B"),
		incl(ar, api.Role{}), incl(ar, role("B", "")), incl(ar, role("", "s")), incl(ar, role("b", "s")), incl(ar, role("B", "S")), incl(api.Role{}, bs), incl(role("A", "R"), bs),
		link(ar, bs, ""), link(ar, bs, "T"), link(ar, bs, "abcdefghi"), link(ar, bs, "t.u"), link(ar, api.Role{}, "t"), link(ar, role("b", "s"), "t"), link(ar, role("B", ""), "t"), link(api.Role{}, bs, "t"),
		both(ar, ct, bs), both(ar, as, ar), both(ar, br, ar), both(ar, bs, api.Role{}), both(ar, api.Role{}, bs), both(ar, api.Role{}, api.Role{}),
		both(ar, bs, role("C", "")), both(ar, bs, role("c", "t")), both(ar, role("A", "R"), bs), both(ar, role("", "s"), bs), both(api.Role{}, bs, ct), both(role("a", "r"), bs, ct),
	} {
		if syn.Right(s) {
			t.Errorf("%v is right", s)
		}
	}
}

// TestP3_1RightAlone: what a statement's kind doesn't have is empty, each of its kinds, and each of its fields.
func TestP3_1RightAlone(t *testing.T) {
	has := map[int]string{api.Member: "who", api.Incl: "a", api.Link: "a via", api.Both: "a b"}
	for _, s := range sound {
		for _, more := range []struct {
			what string
			s    func(s api.Stmt) api.Stmt
		}{
			{"who", func(s api.Stmt) api.Stmt { s.Who = "B"; return s }},
			{"who", func(s api.Stmt) api.Stmt { s.Who = " "; return s }},
			{"a", func(s api.Stmt) api.Stmt { s.A = bs; return s }},
			{"a", func(s api.Stmt) api.Stmt { s.A.Owner = "B"; return s }},
			{"a", func(s api.Stmt) api.Stmt { s.A.Name = "s"; return s }},
			{"b", func(s api.Stmt) api.Stmt { s.B = ct; return s }},
			{"b", func(s api.Stmt) api.Stmt { s.B.Owner = "C"; return s }},
			{"b", func(s api.Stmt) api.Stmt { s.B.Name = "t"; return s }},
			{"via", func(s api.Stmt) api.Stmt { s.Via = "t"; return s }},
			{"via", func(s api.Stmt) api.Stmt { s.Via = "\x00"; return s }},
		} {
			if own := slices.Contains(strings.Fields(has[s.Kind]), more.what); !own && syn.Right(more.s(s)) {
				t.Errorf("%v is right", more.s(s))
			}
		}
		for _, kind := range []int{api.Member, api.Incl, api.Link, api.Both} {
			other := s
			other.Kind = kind
			if kind != s.Kind && syn.Right(other) {
				t.Errorf("%v is right", other)
			}
		}
		for _, kind := range wrongKinds {
			other := s
			other.Kind = kind
			if syn.Right(other) || syn.Right(api.Stmt{Kind: kind, Head: ar}) {
				t.Errorf("%v is right", other)
			}
		}
	}
}

func TestP3_1Normal(t *testing.T) {
	for _, c := range [][2]api.Stmt{
		{both(ar, ct, bs), both(ar, bs, ct)},
		{both(ar, bs, ar), both(ar, ar, bs)},
		{both(ar, as, ar), both(ar, ar, as)},
		{both(ct, br, as), both(ct, as, br)},
		{both(ar, bs, bs), both(ar, bs, bs)},
		{both(ar, bs, ct), both(ar, bs, ct)},
		{both(ar, bs, api.Role{}), both(ar, api.Role{}, bs)},
		{both(api.Role{}, role("A", "s"), role("A", "R")), both(api.Role{}, role("A", "R"), role("A", "s"))},
		{
			{Kind: api.Both, Head: ar, Who: "w", A: ct, B: bs, Via: "V"},
			{Kind: api.Both, Head: ar, Who: "w", A: bs, B: ct, Via: "V"},
		},
	} {
		if got := syn.Normal(c[0]); got != c[1] {
			t.Errorf("%v: %v, not %v", c[0], got, c[1])
		}
		if syn.Normal(c[1]) != c[1] {
			t.Errorf("%v doesn't stay", c[1])
		}
	}
	for _, kind := range append([]int{api.Member, api.Incl, api.Link}, wrongKinds...) {
		s := api.Stmt{Kind: kind, Head: bs, Who: "b", A: ct, B: ar, Via: "V"}
		if syn.Normal(s) != s {
			t.Errorf("%v doesn't stay", s)
		}
	}
	for _, s := range sound {
		if syn.Normal(s) != s {
			t.Errorf("%v doesn't stay", s)
		}
	}
}

// fieldwise are statements, rising: of two that are neighbours in a row each time but one thing differs that counts, and all that counts less is greater in the first one.
var fieldwise = []api.Stmt{
	{Kind: 0, Head: role("", "z"), Who: "Z", A: ct, B: ct, Via: "z"},
	{Kind: math.MinInt, Head: role("A", "a"), Who: "Z", A: ct, B: ct, Via: "z"},
	{Kind: math.MaxInt, Head: role("A", "a"), Who: "Z", A: ct, B: ct, Via: "z"},
	{Kind: -1, Head: role("A", "r"), Who: "Z", A: ct, B: ct, Via: "z"},
	{Kind: 1, Head: role("A", "r"), Who: "", A: ct, B: ct, Via: "z"},
	{Kind: 1, Head: role("A", "r"), Who: "A", A: ct, B: ct, Via: "z"},
	{Kind: 1, Head: role("A", "r"), Who: "Aa", A: ct, B: ct, Via: "z"},
	{Kind: 1, Head: role("A", "r"), Who: "a", A: ct, B: ct, Via: "z"},
	{Kind: 2, Head: role("A", "r"), Who: "", A: ct, B: ct, Via: "z"},
	{Kind: 3, Head: role("A", "r"), Who: "", A: api.Role{}, B: ct, Via: "z"},
	{Kind: 3, Head: role("A", "r"), Who: "", A: role("", "z"), B: ct, Via: "z"},
	{Kind: 3, Head: role("A", "r"), Who: "", A: role("A", "a"), B: ct, Via: "z"},
	{Kind: 3, Head: role("A", "r"), Who: "", A: role("A", "b"), B: api.Role{}, Via: "z"},
	{Kind: 3, Head: role("A", "r"), Who: "", A: role("A", "b"), B: role("B", "r"), Via: "z"},
	{Kind: 3, Head: role("A", "r"), Who: "", A: role("A", "b"), B: role("B", "s"), Via: ""},
	{Kind: 3, Head: role("A", "r"), Who: "", A: role("A", "b"), B: role("B", "s"), Via: "B"},
	{Kind: 3, Head: role("A", "r"), Who: "", A: role("A", "b"), B: role("B", "s"), Via: "b"},
	{Kind: 3, Head: role("A", "r"), Who: "", A: role("A", "b"), B: role("B", "s"), Via: "b\xff"},
	{Kind: 3, Head: role("A", "r"), Who: "", A: role("A", "b"), B: role("C", ""), Via: ""},
	{Kind: 3, Head: role("A", "r"), Who: "", A: role("B", ""), B: api.Role{}, Via: ""},
	{Kind: 3, Head: role("A", "r"), Who: "0", A: api.Role{}, B: api.Role{}, Via: ""},
	{Kind: 4, Head: role("A", "r"), Who: "", A: api.Role{}, B: api.Role{}, Via: ""},
	{Kind: 0, Head: role("A", "s"), Who: "", A: api.Role{}, B: api.Role{}, Via: ""},
	{Kind: 0, Head: role("B", "a"), Who: "", A: api.Role{}, B: api.Role{}, Via: ""},
}

func TestP3_2Order(t *testing.T) {
	for i, a := range fieldwise {
		for j, b := range fieldwise {
			want := 0
			if i < j {
				want = -1
			} else if i > j {
				want = 1
			}
			if got := syn.Order(a, b); got != want {
				t.Errorf("%v, %v: %d, not %d", a, b, got, want)
			}
		}
	}
	kinds := []api.Stmt{member(ar, "Z"), incl(ar, ct), link(ar, bs, "s"), both(ar, ar, ar), member(as, "A"), member(bs, "A"), incl(bs, ar)}
	if !slices.IsSortedFunc(kinds, syn.Order) {
		t.Error("kinds of one head, and heads")
	}
}

func TestP3_2Sort(t *testing.T) {
	if len(syn.Sort()) != 0 || len(syn.Sort([]api.Stmt{}...)) != 0 {
		t.Error("of none")
	}
	for _, s := range fieldwise {
		if got := syn.Sort(s); !slices.Equal(got, []api.Stmt{s}) {
			t.Errorf("%v alone: %v", s, got)
		}
		if got := syn.Sort(s, s, s); !slices.Equal(got, []api.Stmt{s}) {
			t.Errorf("%v doubled: %v", s, got)
		}
	}
	backward := slices.Clone(fieldwise)
	slices.Reverse(backward)
	if got := syn.Sort(backward...); !slices.Equal(got, fieldwise) {
		t.Errorf("backward: %v", got)
	}
	for step := range len(fieldwise) {
		var l []api.Stmt
		for i := range 2 * len(fieldwise) {
			l = append(l, fieldwise[(i*step+i/3)%len(fieldwise)])
		}
		l = append(l, fieldwise...) // so that all are in, whatever the step
		if got := syn.Sort(l...); !slices.Equal(got, fieldwise) {
			t.Errorf("mixed by %d: %v", step, got)
		}
	}
	if got := syn.Sort(both(ar, ct, bs), both(ar, bs, ct)); len(got) != 2 {
		t.Errorf("Sort makes none Normal: %v", got)
	}
}

// TestP3_2SortApart: what is handed in stays, its spare room included, and isn't kept.
func TestP3_2SortApart(t *testing.T) {
	room := []api.Stmt{member(bs, "B"), member(ar, "B"), member(bs, "B"), member(ar, "A"), member(ct, "A"), member(as, "A")}
	before := slices.Clone(room)
	got := syn.Sort(room[:4]...)
	want := []api.Stmt{member(ar, "A"), member(ar, "B"), member(bs, "B")}
	if !slices.Equal(got, want) {
		t.Fatalf("%v", got)
	}
	_ = append(got, member(ct, "Z"))
	got[0].Who = "Z"
	if !slices.Equal(room, before) {
		t.Errorf("what was handed in is changed: %v", room)
	}
	again := syn.Sort(room[:4]...)
	clear(room)
	if !slices.Equal(again, want) {
		t.Errorf("what was handed in is kept: %v", again)
	}
	one := []api.Stmt{member(ar, "A"), member(ar, "B")}
	alone := syn.Sort(one[:1]...)
	_ = append(alone, member(ct, "Z"))
	alone[0].Who = "Z"
	if one[0].Who != "A" || one[1].Who != "B" {
		t.Errorf("one alone is shared: %v", one)
	}
}

func TestP3_2Roles(t *testing.T) {
	for _, c := range []struct {
		s    api.Stmt
		want []api.Role
	}{
		{member(ar, "B"), []api.Role{ar}},
		{incl(ar, bs), []api.Role{ar, bs}},
		{incl(ar, ar), []api.Role{ar, ar}},
		{link(ar, bs, "t"), []api.Role{ar, bs}},
		{both(ar, bs, ct), []api.Role{ar, bs, ct}},
		{both(ct, bs, ar), []api.Role{ct, bs, ar}},
		{both(ar, ar, ar), []api.Role{ar, ar, ar}},
		{both(api.Role{}, bs, api.Role{}), []api.Role{{}, bs, {}}},
		{api.Stmt{Kind: api.Member, Head: ar, Who: "C", A: bs, B: ct, Via: "t"}, []api.Role{ar}},
		{api.Stmt{Kind: api.Incl, Head: ar, Who: "C", A: bs, B: ct, Via: "t"}, []api.Role{ar, bs}},
		{api.Stmt{Kind: api.Link, Head: ar, Who: "C", A: bs, B: ct, Via: "t"}, []api.Role{ar, bs}},
		{api.Stmt{Kind: api.Both, Head: ar, Who: "C", A: bs, B: ct, Via: "t"}, []api.Role{ar, bs, ct}},
	} {
		got := syn.Roles(c.s)
		if !slices.Equal(got, c.want) {
			t.Errorf("%v: %q, not %q", c.s, got, c.want)
			continue
		}
		got[0].Owner = "Z"
		if again := syn.Roles(c.s); !slices.Equal(again, c.want) {
			t.Errorf("%v: an answer is kept: %q", c.s, again)
		}
	}
	for _, kind := range wrongKinds {
		s := api.Stmt{Kind: kind, Head: ar, Who: "C", A: bs, B: ct, Via: "t"}
		if got := syn.Roles(s); !slices.Equal(got, []api.Role{ar}) {
			t.Errorf("%v: %q", s, got)
		}
	}
}

func TestP3_3Print(t *testing.T) {
	for _, c := range []struct {
		s    api.Stmt
		want string
	}{
		{member(ar, "B"), "A.r <- B"},
		{member(ar, "A"), "A.r <- A"},
		{incl(ar, bs), "A.r <- B.s"},
		{link(ar, bs, "t"), "A.r <- B.s.t"},
		{both(ar, bs, ct), "A.r <- B.s & C.t"},
		{both(ar, as, bs), "A.r <- A.s & B.s"},
		{both(ar, ar, ar), "A.r <- A.r & A.r"},
		{member(role("B0b", "grow"), "Eve"), "B0b.grow <- Eve"},
		{
			both(role("ABCDEFGH", "abcdefgh"), role("ABCDEFGH", "abcdefgh"), role("ABCDEFGI", "abcdefgh")),
			"ABCDEFGH.abcdefgh <- ABCDEFGH.abcdefgh & ABCDEFGI.abcdefgh",
		},
	} {
		if got := syn.Print(c.s); got != c.want {
			t.Errorf("%v: %q, not %q", c.s, got, c.want)
		}
	}
	for _, s := range []api.Stmt{
		{}, {Kind: api.Member}, {Head: ar, Who: "B"}, {Kind: 5, Head: ar, Who: "B"}, {Kind: -1, Head: ar, A: bs},
		member(ar, ""), member(ar, "b"), member(ar, "B.s"), member(role("a", "r"), "B"), member(role("A", "R"), "B"),
		incl(ar, api.Role{}), incl(ar, role("B", "")), link(ar, bs, ""), link(ar, bs, "T"), link(ar, role("", "s"), "t"),
		both(ar, ct, bs), both(ar, bs, api.Role{}), both(ar, role("b", "s"), ct),
		{Kind: api.Member, Head: ar, Who: "B", A: bs}, {Kind: api.Incl, Head: ar, A: bs, Via: "t"}, {Kind: api.Both, Head: ar, A: bs, B: ct, Who: "B"}, {Kind: api.Link, Head: ar, A: bs, B: ct, Via: "t"},
	} {
		if got := syn.Print(s); got != "" {
			t.Errorf("%v isn't right, and has the line %q", s, got)
		}
	}
}

func tok(kind int, text string) api.Token { return api.Token{Kind: kind, Text: text} }

func tokens(t *testing.T, line string) []api.Token {
	t.Helper()
	l, _, why := scan.Tokens(line)
	if why != api.OK {
		t.Fatalf("%q has no tokens", line)
	}
	return l
}

func TestP3_3ReadRole(t *testing.T) {
	for _, c := range []struct {
		line string
		r    api.Role
		rest int // of how many tokens the role is the beginning
	}{
		{"A.r", ar, 0},
		{"A . r # x", ar, 0},
		{"ABCDEFGH.abcdefgh", role("ABCDEFGH", "abcdefgh"), 0},
		{"A.r <- B.s & C.t", ar, 8},
		{"B.s & C.t", bs, 4},
		{"B.s.t", bs, 2},
		{"B.s.T", bs, 2},
		{"A.r A.r", ar, 3},
		{"A.r always", ar, 1},
		{"B.grow . . <-", role("B", "grow"), 3},
	} {
		l := tokens(t, c.line)
		r, rest, ok := syn.ReadRole(l)
		if r != c.r || !ok || !slices.Equal(rest, l[len(l)-c.rest:]) {
			t.Errorf("%q: %q, %v, %v", c.line, r, rest, ok)
		}
	}
	for _, line := range []string{
		"", "A", "A.", "A.R", "A..", "A.&", "A.<-", "A r", "A r s", "A&r", "A <- r", "a.r", "r.A", ".r", ".A.r", "A..r", "& A.r", "<- A.r", "A A.r", "r A.r", "A.B.r", "always A.r", "A.<-r", "A r.s",
	} {
		l := tokens(t, line)
		r, rest, ok := syn.ReadRole(l)
		if r != (api.Role{}) || ok || !slices.Equal(rest, l) {
			t.Errorf("%q: %q, %v, %v", line, r, rest, ok)
		}
	}
}

// TestP3_3ReadRoleTokens: of a role are but tokens of the kinds and the texts that its own line has, wherever they stand.
func TestP3_3ReadRoleTokens(t *testing.T) {
	l := []api.Token{{Kind: api.TokPrin, Text: "A", Col: -3}, {Kind: api.TokDot, Text: ".", Col: 900}, tok(api.TokName, "r"), tok(7, "any")}
	if r, rest, ok := syn.ReadRole(l); r != ar || !ok || !slices.Equal(rest, l[3:]) {
		t.Errorf("%q, %v, %v", r, rest, ok)
	}
	for i, wrong := range [][]api.Token{
		{tok(api.TokName, "A"), tok(0, "A"), tok(api.TokDot, "A"), tok(api.TokPrin, ""), tok(api.TokPrin, "a"), tok(api.TokPrin, "ABCDEFGHI"), tok(api.TokPrin, "A."), tok(api.TokPrin, "A#"), {}},
		{tok(api.TokAmp, "."), tok(api.TokName, "."), tok(0, "."), tok(api.TokDot, ""), tok(api.TokDot, ".."), tok(api.TokDot, "&"), tok(api.TokDot, "r"), {}},
		{tok(api.TokPrin, "r"), tok(-1, "r"), tok(api.TokDot, "r"), tok(api.TokName, ""), tok(api.TokName, "R"), tok(api.TokName, "abcdefghi"), tok(api.TokName, "r#"), tok(api.TokName, "r s"), {}},
	} {
		for _, w := range wrong {
			other := slices.Clone(l)
			other[i] = w
			r, rest, ok := syn.ReadRole(other)
			if r != (api.Role{}) || ok || !slices.Equal(rest, other) {
				t.Errorf("%v: %q, %v, %v", other, r, rest, ok)
			}
		}
	}
}

func TestP3_3ReadRoleApart(t *testing.T) {
	for _, line := range []string{"A.r <- B.s", "A <- B.s", "A.r", "A", "A.r.s"} {
		room := append(tokens(t, line), tok(api.TokAmp, "&"), tok(api.TokAmp, "&"))
		before := slices.Clone(room)
		_, rest, _ := syn.ReadRole(room[:len(room)-2])
		want := slices.Clone(rest)
		_ = append(rest, tok(api.TokName, "z"))
		for i := range rest {
			rest[i].Text = "z"
		}
		if !slices.Equal(room, before) {
			t.Errorf("%q is changed: %v", line, room)
		}
		_, rest, _ = syn.ReadRole(room[:len(room)-2])
		clear(room)
		if !slices.Equal(rest, want) {
			t.Errorf("%q is kept: %v", line, rest)
		}
	}
	if r, rest, ok := syn.ReadRole(nil); r != (api.Role{}) || len(rest) != 0 || ok {
		t.Error("of nil:", r, rest, ok)
	}
}

func TestP3_4Parse(t *testing.T) {
	for _, c := range []struct {
		line string
		want api.Stmt
	}{
		{"A.r <- B", member(ar, "B")},
		{"A.r <- A", member(ar, "A")},
		{"A.r <- B.s", incl(ar, bs)},
		{"A.r <- A.r", incl(ar, ar)},
		{"A.r <- B.s.t", link(ar, bs, "t")},
		{"A.r <- A.r.r", link(ar, ar, "r")},
		{"A.r <- B.s & C.t", both(ar, bs, ct)},
		{"A.r <- B.s & A.s", both(ar, as, bs)}, // the chapter's example
		{"A.r <- A.s & B.s", both(ar, as, bs)},
		{"A.r <- A.s & A.r", both(ar, ar, as)},
		{"A.r <- B.r & A.s", both(ar, as, br)},
		{"A.r <- B.s & B.s", both(ar, bs, bs)},
		{"A.r<-B", member(ar, "B")},
		{"A.r<-B.s&C.t", both(ar, bs, ct)},
		{"  A . r   <-   B . s . t  ", link(ar, bs, "t")},
		{"A.r <- B # C.t", member(ar, "B")},
		{"A.r <- B#", member(ar, "B")},
		{"A.r <- B.s # & C.t ?", incl(ar, bs)},
		{"A.grow <- B.always", incl(role("A", "grow"), role("B", "always"))},
		{"ABCDEFGH.abcdefgh <- A2345678", member(role("ABCDEFGH", "abcdefgh"), "A2345678")},
		{"A.r <- B" + strings.Repeat(" ", api.MaxLine-8), member(ar, "B")},
	} {
		if got, at, why := syn.Parse(c.line); got != c.want || at != 0 || why != api.OK {
			t.Errorf("%q: %v, %d, %d; not %v", c.line, got, at, why, c.want)
		}
	}
}

// faulty holds what a line that is no statement's comes to against what it is to be.
func faulty(t *testing.T, line string, at int, why api.Errno) {
	t.Helper()
	s, gotAt, gotWhy := syn.Parse(line)
	if s != (api.Stmt{}) || gotAt != at || gotWhy != why {
		t.Errorf("%q: %v, %d, %d; not %d, %d", line, s, gotAt, gotWhy, at, why)
	}
}

func TestP3_4Tokens(t *testing.T) {
	faulty(t, "?", 1, api.ErrByte)
	faulty(t, "A.r <- B ?", 10, api.ErrByte)
	faulty(t, "A.r < B", 5, api.ErrByte)
	faulty(t, "A.r <- B\n", 9, api.ErrByte)
	faulty(t, "A.r\t<- B", 4, api.ErrByte)
	faulty(t, "A.1 <- B", 3, api.ErrByte)
	faulty(t, "A.r <- B.é", 10, api.ErrByte)
	faulty(t, "A.r <- ABCDEFGHI", 8, api.ErrLong)
	faulty(t, "A.abcdefghi <- B", 3, api.ErrLong)
	faulty(t, "A.r <- B"+strings.Repeat(" ", api.MaxLine-7), api.MaxLine+1, api.ErrLong)
	faulty(t, "A.r <- B #"+strings.Repeat("x", api.MaxLine), api.MaxLine+1, api.ErrLong)
	// tokens come ahead of what they are
	faulty(t, "r <- ?", 6, api.ErrByte)
	faulty(t, "A.r <- & ABCDEFGHI", 10, api.ErrLong)
	faulty(t, "A. ?", 4, api.ErrByte)
	faulty(t, "r <- B ABCDEFGHI ?", 8, api.ErrLong)
}

func TestP3_4ErrForm(t *testing.T) {
	for _, c := range []struct {
		line string
		at   int
	}{
		{"a", 1}, {".", 1}, {"&", 1}, {"<-", 1}, {"  r", 3}, {"grow A.r", 1}, {"always A.r has B", 1},
		{"A B", 3}, {"A r", 3}, {"A <- B", 3}, {"A&", 2}, {"A  B  C", 4},
		{"A.A", 3}, {"A..", 3}, {"A.<-", 3}, {"A.&", 3}, {"A.R <- B", 3},
		{"A.r B", 5}, {"A.r s", 5}, {"A.r.s", 4}, {"A.r.s <- B", 4}, {"A.r & B.s <- C", 5},
		{"A.r <- b", 8}, {"A.r <- .s", 8}, {"A.r <- & B.s", 8}, {"A.r <- <- B", 8},
		{"A.r <- B C", 10}, {"A.r <- B s", 10}, {"A.r <- B & C", 10}, {"A.r <- B & C.t", 10}, {"A.r <- B <- C", 10},
		{"A.r <- B.C", 10}, {"A.r <- B..", 10}, {"A.r <- B.&", 10}, {"A.r <- B. <-", 11},
		{"A.r <- B.s C", 12}, {"A.r <- B.s t", 12}, {"A.r <- B.s <- C", 12},
		{"A.r <- B.s.T", 12}, {"A.r <- B.s..", 12}, {"A.r <- B.s.&", 12}, {"A.r <- B.s. <-", 13},
		{"A.r <- B.s.t C", 14}, {"A.r <- B.s.t u", 14}, {"A.r <- B.s.t.u", 13}, {"A.r <- B.s.t & C.t", 14}, {"A.r <- B.s.t <- C", 14},
		{"A.r <- B.s & c.t", 14}, {"A.r <- B.s & .t", 14}, {"A.r <- B.s & & C.t", 14}, {"A.r <- B.s & <-", 14}, {"A.r <- B.s & t", 14},
		{"A.r <- B.s & C t", 16}, {"A.r <- B.s & C & D.u", 16}, {"A.r <- B.s & C D", 16}, {"A.r <- B.s & C <-", 16},
		{"A.r <- B.s & C.D", 16}, {"A.r <- B.s & C..", 16}, {"A.r <- B.s & C.&", 16}, {"A.r <- B.s & C.<-", 16},
		{"A.r <- B.s & C.t.u", 17}, {"A.r <- B.s & C.t & D.u", 18}, {"A.r <- B.s & C.t D", 18}, {"A.r <- B.s & C.t u", 18}, {"A.r <- B.s & C.t <-", 18},
		// the first one that is wrong, whatever is behind, or wanting
		{"A.r <- B C # ?", 10}, {"A r . <-", 3}, {"a.", 1}, {" <- <- <-", 2}, {"A.r <- B.s & & &", 14},
	} {
		faulty(t, c.line, c.at, api.ErrForm)
	}
}

func TestP3_4ErrEnd(t *testing.T) {
	for _, c := range []struct {
		line string
		at   int
	}{
		{"", 1}, {" ", 1}, {"     ", 1}, {"#", 1}, {"   # A.r <- B", 1},
		{"A", 2}, {"A.", 3}, {"A.r", 4}, {"A.r <-", 7}, {"A.r <- B.", 10}, {"A.r <- B.s.", 12}, {"A.r <- B.s &", 13}, {"A.r <- B.s & C", 15}, {"A.r <- B.s & C.", 16},
		{"A.r <-    ", 7}, {"A.r <-#", 7}, {"A.r <- # B", 7}, {"A.r <-   # B   ", 7}, {"  A.r  <-  ", 10}, {"   A", 5}, {"Alice", 6}, {"Alice.role", 11},
		{"A.abcdefgh   #x#", 11},
		{strings.Repeat(" ", api.MaxLine-1) + "A", api.MaxLine + 1},
	} {
		faulty(t, c.line, c.at, api.ErrEnd)
	}
}

// kindRows calls see with all rows of at most n kinds of tokens, each told by a byte.
func kindRows(n int, see func(row string)) {
	var more func(row string, n int)
	more = func(row string, n int) {
		see(row)
		if n == 0 {
			return
		}
		for _, c := range "Pn.<&" {
			more(row+string(c), n-1)
		}
	}
	more("", n)
}

// lineOf makes a line of a row of kinds, and tells each one's place, and the one behind the last one.
func lineOf(row string) (string, []int) {
	words := map[byte]string{'P': "Bob", 'n': "role", '.': ".", '<': "<-", '&': "&"}
	line, places := "", []int{1}
	for i := range len(row) {
		line += strings.Repeat(" ", i%2+1)
		places[i] = len(line) + 1
		line += words[row[i]]
		places = append(places, len(line)+1)
	}
	return line + "  # Bob", places
}

// TestP3_4AnyTokens: of all rows of few tokens, and of all behind each beginning of a line, the place and the error are reckoned from the promise's words.
func TestP3_4AnyTokens(t *testing.T) {
	shapes := []string{"P.n<P", "P.n<P.n", "P.n<P.n.n", "P.n<P.n&P.n"}
	goesOn := func(begin string) bool {
		return slices.ContainsFunc(shapes, func(s string) bool { return strings.HasPrefix(s, begin) })
	}
	seen := map[api.Errno]int{}
	see := func(row string) {
		line, places := lineOf(row)
		s, at, why := syn.Parse(line)
		seen[why]++
		if slices.Contains(shapes, row) {
			if why != api.OK || at != 0 || !syn.Right(s) || s.Kind != slices.Index(shapes, row)+1 {
				t.Errorf("%q: %v, %d, %d", line, s, at, why)
			}
			return
		}
		n := 0
		for n < len(row) && goesOn(row[:n+1]) {
			n++
		}
		want := api.ErrForm
		if n == len(row) {
			want = api.ErrEnd
		}
		if s != (api.Stmt{}) || at != places[n] || why != want {
			t.Errorf("%q: %v, %d, %d; not %d, %d", line, s, at, why, places[n], want)
		}
	}
	kindRows(5, see)
	for _, shape := range shapes {
		for n := range len(shape) + 1 {
			kindRows(3, func(row string) { see(shape[:n] + row) })
		}
	}
	if seen[api.OK] == 0 || seen[api.ErrEnd] == 0 || seen[api.ErrForm] == 0 {
		t.Error("not all has been seen:", seen)
	}
}

// many are statements of all kinds, right ones and wrong ones, of a few texts.
func many() []api.Stmt {
	prins := []string{"A", "Aa", "B"}
	links := []string{"r", "rr", "s"}
	var roles []api.Role
	for _, p := range prins {
		for _, n := range links {
			roles = append(roles, role(p, n))
		}
	}
	var l []api.Stmt
	for _, head := range roles {
		for _, who := range prins {
			l = append(l, member(head, who))
		}
		for _, a := range roles {
			l = append(l, incl(head, a))
			for _, via := range links {
				l = append(l, link(head, a, via))
			}
			for _, b := range roles {
				l = append(l, both(head, a, b))
			}
		}
	}
	return l
}

func TestP3_5Parsed(t *testing.T) {
	seen := 0
	for _, s := range slices.Concat(many(), sound) {
		if !syn.Right(s) {
			continue
		}
		seen++
		got, at, why := syn.Parse(syn.Print(s))
		if got != s || at != 0 || why != api.OK {
			t.Errorf("%v: %q is parsed as %v, %d, %d", s, syn.Print(s), got, at, why)
		}
	}
	if want := 9*(3+9+27+45) + len(sound); seen != want {
		t.Errorf("%d are right, not %d", seen, want)
	}
}

// TestP3_5BothWays: a Both the wrong way round is parsed from its tokens as its Normal.
func TestP3_5BothWays(t *testing.T) {
	for _, s := range many() {
		if s.Kind != api.Both {
			continue
		}
		line := syn.PrintRole(s.Head) + "<-" + syn.PrintRole(s.A) + "&" + syn.PrintRole(s.B)
		if got, at, why := syn.Parse(line); got != syn.Normal(s) || !syn.Right(got) || at != 0 || why != api.OK {
			t.Errorf("%q: %v, %d, %d", line, got, at, why)
		}
	}
}

func TestP3_6Order(t *testing.T) {
	l := slices.Clone(fieldwise)
	for i, s := range many() {
		if i%7 == 0 {
			l = append(l, s)
		}
	}
	l = append(l, sound...)
	for _, a := range l {
		if syn.Order(a, a) != 0 {
			t.Errorf("%v isn't at its own place", a)
		}
		for _, b := range l {
			ab, ba := syn.Order(a, b), syn.Order(b, a)
			if ab != -ba || ab < -1 || ab > 1 || (ab == 0) != (a == b) {
				t.Fatalf("%v, %v: %d, %d", a, b, ab, ba)
			}
		}
	}
	sorted := syn.Sort(l...)
	for i, a := range sorted {
		for j, b := range sorted { // one row in which all stand: so what is below what is below is below
			if (syn.Order(a, b) < 0) != (i < j) {
				t.Fatalf("%v, %v: %d", a, b, syn.Order(a, b))
			}
		}
	}
}

func TestP3_6Lines(t *testing.T) {
	byLine := map[string]api.Stmt{}
	for _, s := range slices.Concat(many(), sound) {
		if !syn.Right(s) {
			continue
		}
		line := syn.Print(s)
		if line == "" {
			t.Fatalf("%v has no line", s)
		}
		if other, ok := byLine[line]; ok && other != s {
			t.Errorf("%v and %v have the line %q", s, other, line)
		}
		byLine[line] = s
		if again := syn.Print(s); again != line {
			t.Errorf("%v has two lines: %q, %q", s, line, again)
		}
	}
}
