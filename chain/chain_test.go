package chain_test

import (
	"math"
	"slices"
	"strconv"
	"strings"
	"testing"

	"crupper/api"
	"crupper/chain"
	"crupper/plain"
	"crupper/syn"
)

// Roles of A and B.
var (
	ar = role("A", "r")
	as = role("A", "s")
	br = role("B", "r")
	bs = role("B", "s")
)

func role(owner, name string) api.Role { return plain.Role(owner, name) }

// stmts are those of a text, told apart by semicolons, as they come.
func stmts(t *testing.T, text string) []api.Stmt {
	t.Helper()
	var l []api.Stmt
	for _, line := range strings.Split(text, ";") {
		if strings.TrimSpace(line) == "" {
			continue
		}
		s, at, why := syn.Parse(line)
		if why != api.OK {
			t.Fatal(line, at, why)
		}
		l = append(l, s)
	}
	return l
}

// What drawn statements are about.
var (
	someone = []string{"A", "B", "C", "D", "AA"}
	somehow = []string{"r", "s", "t"}
)

func drawnRole(d *plain.Dice) api.Role {
	return role(someone[d.Below(len(someone))], somehow[d.Below(len(somehow))])
}

// drawn are from 1 to n statements, in any order, and some of them once more.
func drawn(d *plain.Dice, n int) []api.Stmt {
	l := d.Stmts(d.Below(n)+1, someone, somehow)
	return append(l, l[:d.Below(len(l))/4]...)
}

// on are all roles that who is in, by Less.
func on(m plain.In, who string) []api.Role {
	var l []api.Role
	for r := range m {
		if m.Has(r, who) {
			l = append(l, r)
		}
	}
	return rising(l)
}

// rising puts roles in order, by their texts: of names alone that is Less.
func rising(l []api.Role) []api.Role {
	slices.SortFunc(l, func(a, b api.Role) int {
		if a.Owner != b.Owner {
			return strings.Compare(a.Owner, b.Owner)
		}
		return strings.Compare(a.Name, b.Name)
	})
	return l
}

// asked is the least row that the chapter tells, by the model of all statements.
func asked(l []api.Stmt, m plain.In, r api.Role) []api.Role {
	row := []api.Role{r}
	for i := 0; i < len(row); i++ {
		put := func(x api.Role) {
			if !slices.Contains(row, x) {
				row = append(row, x)
			}
		}
		for _, s := range l {
			if s.Head != row[i] {
				continue
			}
			switch s.Kind {
			case api.Incl:
				put(s.A)
			case api.Both:
				put(s.A)
				put(s.B)
			case api.Link:
				put(s.A)
				for x := range m[s.A] {
					put(role(x, s.Via))
				}
			}
		}
	}
	return rising(row)
}

// about are the statements about these roles, by Order, each once.
func about(l []api.Stmt, asked []api.Role) []api.Stmt {
	var out []api.Stmt
	for _, s := range l {
		if !slices.Contains(asked, s.Head) || slices.Contains(out, s) {
			continue
		}
		at := 0
		for at < len(out) && syn.Order(out[at], s) < 0 {
			at++
		}
		out = slices.Insert(out, at, s)
	}
	return out
}

// same says what is wrong with what is answered of a role.
func same(t *testing.T, l []api.Stmt, m plain.In, r api.Role) {
	t.Helper()
	f, row := chain.Back(l, r), asked(l, m, r)
	if !slices.Equal(f.Members, m.Of(r)) {
		t.Errorf("%v: in %v are %v, not %v", l, r, f.Members, m.Of(r))
	}
	if !slices.Equal(f.Asked, row) {
		t.Errorf("%v: for %v are asked %v, not %v", l, r, f.Asked, row)
	}
	if want := about(l, row); !slices.Equal(f.Stmts, want) {
		t.Errorf("%v: for %v are taken %v, not %v", l, r, f.Stmts, want)
	}
}

// told are statements, and what is answered of A.r.
var told = []struct {
	text           string
	members, asked string
}{
	{"", "", "A.r"},
	{"A.r <- B.s.t; B.s <- C; C.t <- D; E.u <- F", "D", "A.r B.s C.t"},
	{"A.r <- B", "B", "A.r"},
	{"A.s <- B", "", "A.r"},
	{"B.r <- B", "", "A.r"},
	{"A.r <- C; A.r <- B; A.r <- Ab; A.r <- AB; A.r <- A1; A.r <- B", "A1 AB Ab B C", "A.r"},
	{"A.r <- B.s", "", "A.r B.s"},
	{"A.r <- B.s; B.s <- C; C.s <- D", "C", "A.r B.s"},
	{"A.r <- A.r", "", "A.r"},
	{"A.r <- A.r; A.r <- B", "B", "A.r"},
	{"A.r <- B.s; B.s <- A.r; A.r <- C; B.s <- D", "C D", "A.r B.s"},
	{"B.s <- A.r; A.r <- C; B.s <- D", "C", "A.r"},
	{"A.r <- B.s & C.s", "", "A.r B.s C.s"},
	{"A.r <- B.s & C.s; B.s <- D; C.s <- D; B.s <- E; C.s <- F", "D", "A.r B.s C.s"},
	{"A.r <- B.s & C.s; B.s <- D.t; C.s <- E.t; D.t <- G; E.t <- G; E.t <- H", "G", "A.r B.s C.s D.t E.t"},
	{"A.r <- B.s & B.s; B.s <- D", "D", "A.r B.s"},
	{"A.r <- A.r & B.s; B.s <- D", "", "A.r B.s"},
	{"A.r <- B.s.t; C.t <- D", "", "A.r B.s"},
	{"A.r <- B.s.t; B.s <- C; B.s <- D", "", "A.r B.s C.t D.t"},
	{"A.r <- B.s.t; B.s <- C; B.s <- D; C.t <- E; D.t <- F; E.t <- G", "E F", "A.r B.s C.t D.t"},
	{"A.r <- B.s.t; B.s <- C; C.t <- E.u; E.u <- F; C.s <- B", "F", "A.r B.s C.t E.u"},
	{"A.r <- A.r.r; A.r <- B; B.r <- C; C.r <- D; E.r <- A", "B C D", "A.r B.r C.r D.r"},
	{"A.r <- A.s.r; A.s <- A; A.r <- B", "B", "A.r A.s"},
	{"A.r <- A.s.s; A.s <- A; A.s <- B; B.s <- C", "A B C", "A.r A.s B.s"},
	{"A.r <- B.s.t; B.s <- C.s.t; C.s <- D; D.t <- E; E.t <- F", "F", "A.r B.s C.s D.t E.t"},
	{"A.r <- B.s.t; A.r <- B.s.u; B.s <- C; C.t <- D; C.u <- E; C.v <- F", "D E", "A.r B.s C.t C.u"},
	{"A.r <- B.s; A.r <- B.s.t; B.s <- C; C.t <- C", "C", "A.r B.s C.t"},
	{"A.r <- A; A.r <- B.s.t; B.s <- A.r; A.t <- B; B.t <- C", "A B C", "A.r A.t B.s B.t C.t"},
	{"Z.r <- B; A.r <- Z.r; A.r <- Ab.r; A.r <- A1.r; A.r <- A.z; A.r <- A.aB; A.r <- A.ab", "B", "A.aB A.ab A.r A.z A1.r Ab.r Z.r"},
}

func TestP40_1Told(t *testing.T) {
	for _, c := range told {
		l := stmts(t, c.text)
		f := chain.Back(l, ar)
		if !slices.Equal(f.Members, strings.Fields(c.members)) || !slices.Equal(f.Asked, plain.Roles(c.asked)) {
			t.Errorf("%s: %v", c.text, f)
		}
		if want := about(l, plain.Roles(c.asked)); !slices.Equal(f.Stmts, want) {
			t.Errorf("%s: %v, not %v", c.text, f.Stmts, want)
		}
		same(t, l, plain.Least(l), ar)
	}
}

// few are all statements that are right, of A and B, and r.
func few() []api.Stmt {
	var l []api.Stmt
	for _, head := range []api.Role{ar, br} {
		l = append(l, plain.Member(head, "A"), plain.Member(head, "B"), plain.Incl(head, ar), plain.Incl(head, br), plain.Link(head, ar, "r"), plain.Link(head, br, "r"),
			plain.Both(head, ar, ar), plain.Both(head, ar, br), plain.Both(head, br, br))
	}
	return l
}

// TestP40_1Few: all statements in threes, with all that is answered.
func TestP40_1Few(t *testing.T) {
	all := few()
	for i, a := range all {
		for j, b := range all {
			for _, c := range all[min(i, j):] {
				l := []api.Stmt{a, b, c}
				m := plain.Least(l)
				same(t, l, m, ar)
				same(t, l, m, br)
				ons(t, l, m, "A", "B")
			}
		}
		if t.Failed() {
			return
		}
	}
}

// ons says what is wrong with the roles that these are in.
func ons(t *testing.T, l []api.Stmt, m plain.In, who ...string) {
	t.Helper()
	for _, x := range who {
		if got, want := chain.On(l, x), on(m, x); !slices.Equal(got, want) {
			t.Errorf("%v: %s is in %v, not %v", l, x, got, want)
		}
	}
}

func TestP40_1Drawn(t *testing.T) {
	d := plain.Dice(401)
	for range 1500 {
		l := drawn(&d, 30)
		m := plain.Least(l)
		for range 4 {
			same(t, l, m, drawnRole(&d))
		}
		if t.Failed() {
			return
		}
	}
}

// TestP40_1Unknown: of a role about which nothing is said, and of any text that is none, it alone is asked.
func TestP40_1Unknown(t *testing.T) {
	l := stmts(t, "A.r <- B.s.t; B.s <- C; C.t <- D; E.u <- F")
	for _, r := range []api.Role{{}, role("A", ""), role("", "r"), role("A", "t"), role("Z", "z"), role("a", "R"), role("\xff", "A.r"), role("A.r", "")} {
		f := chain.Back(l, r)
		if len(f.Members) != 0 || len(f.Stmts) != 0 || !slices.Equal(f.Asked, []api.Role{r}) {
			t.Errorf("%v: %v", r, f)
		}
	}
	f := chain.Back(nil, ar)
	if len(f.Members) != 0 || len(f.Stmts) != 0 || !slices.Equal(f.Asked, []api.Role{ar}) {
		t.Errorf("of nothing: %v", f)
	}
}

func TestP40_1Local(t *testing.T) {
	l := stmts(t, "B.s <- C; A.r <- B.s & B.r; A.r <- B.s.t; A.r <- B.s; A.r <- C; A.r <- B; B.s <- C; A.s <- A.r; B.r <- A.r; AA.r <- A; Aa.r <- A")
	for bits := range 1 << 6 {
		var row []api.Role
		for i, r := range plain.Roles("B.s A.r A.s B.r AA.r C.x") {
			if bits>>i&1 == 1 {
				row = append(row, r)
			}
		}
		want := about(l, row)
		if got := chain.Local(l, row...); !slices.Equal(got, want) {
			t.Errorf("of %v: %v, not %v", row, got, want)
		}
		if got := chain.Local(l, append(row, row...)...); !slices.Equal(got, want) {
			t.Errorf("of %v, doubled: %v, not %v", row, got, want)
		}
	}
	if got := chain.Local(l); len(got) != 0 {
		t.Error("of no role:", got)
	}
	if got := chain.Local(nil, ar, bs); len(got) != 0 {
		t.Error("of no statement:", got)
	}
	if got := chain.Local(l, api.Role{}, role("A", ""), role("", "r")); len(got) != 0 {
		t.Error("of texts that are no roles:", got)
	}
}

// TestP40_1Order: in whatever order statements come, doubled or not, the same is answered.
func TestP40_1Order(t *testing.T) {
	d := plain.Dice(4010)
	for range 200 {
		l := drawn(&d, 20)
		r, who := drawnRole(&d), someone[d.Below(len(someone))]
		f, on := chain.Back(l, r), chain.On(l, who)
		for range 4 {
			other := append(slices.Clone(l), l[d.Below(len(l))])
			for i := range other {
				j := d.Below(i + 1)
				other[i], other[j] = other[j], other[i]
			}
			g := chain.Back(other, r)
			if !slices.Equal(f.Members, g.Members) || !slices.Equal(f.Asked, g.Asked) || !slices.Equal(f.Stmts, g.Stmts) || !slices.Equal(on, chain.On(other, who)) {
				t.Fatalf("%v and %v: %v, %v", l, other, f, g)
			}
		}
	}
}

func TestP40_2On(t *testing.T) {
	for _, c := range []struct{ text, who, want string }{
		{"", "A", ""},
		{"A.r <- B", "B", "A.r"},
		{"A.r <- B", "A", ""},
		{"B.s <- B; A.r <- B; A.b <- B; A.aB <- B; AA.r <- B; Aa.r <- B; A.r <- C", "B", "A.aB A.b A.r AA.r Aa.r B.s"},
		{"A.r <- B.s; B.s <- C; C.t <- A.r; D.t <- B.t", "C", "A.r B.s C.t"},
		{"A.r <- B.s.t; B.s <- C; C.t <- D; E.u <- F", "D", "A.r C.t"},
		{"A.r <- B.s.t; B.s <- C; C.t <- D; E.u <- F", "C", "B.s"},
		{"A.r <- B.s.t; B.s <- C.u; C.u <- D; C.t <- E; D.t <- F", "F", "A.r D.t"},
		{"A.r <- B.s.t; B.s <- C; D.t <- E", "E", "D.t"},
		{"A.r <- B.s.t; B.s <- C.s.t; C.s <- D; D.t <- E; E.t <- F", "F", "A.r E.t"},
		{"A.r <- B.s.t; B.s <- C.s.t; C.s <- D; D.t <- E; E.t <- F", "E", "B.s D.t"},
		{"A.r <- A.r.r; A.r <- B; B.r <- C; C.r <- D", "D", "A.r C.r"},
		{"A.r <- B.s & C.s; B.s <- D; C.s <- D", "D", "A.r B.s C.s"},
		{"A.r <- B.s & C.s; B.s <- D; C.s <- E", "D", "B.s"},
		{"A.r <- B.s & B.s; B.s <- D", "D", "A.r B.s"},
		{"A.r <- A.s.s; A.s <- A; A.s <- B; B.s <- C", "C", "A.r B.s"},
		{"A.r <- A.s.t; A.t <- A; A.s <- A", "A", "A.r A.s A.t"},
		{"A.r <- B.s.t; B.s <- A.r; A.t <- A; B.s <- A", "A", "A.r A.t B.s"},
	} {
		l := stmts(t, c.text)
		if got := chain.On(l, c.who); !slices.Equal(got, plain.Roles(c.want)) {
			t.Errorf("%s: %s is in %v", c.text, c.who, got)
		}
		ons(t, l, plain.Least(l), "A", "B", "C", "D", "E", "F", "G", "", "r", "A.r")
	}
	d := plain.Dice(402)
	for range 1500 {
		l := drawn(&d, 30)
		if ons(t, l, plain.Least(l), someone...); t.Failed() {
			return
		}
	}
}

// TestP40_2Is: Back, On and Is say the same of each role and each one.
func TestP40_2Is(t *testing.T) {
	d := plain.Dice(4020)
	yes := 0
	for range 300 {
		l := drawn(&d, 25)
		m := plain.Least(l)
		for _, owner := range append(someone, "Z", "") {
			for _, name := range append(somehow, "z", "") {
				r := role(owner, name)
				for _, who := range append(someone, "Z", "") {
					if got := chain.Is(l, r, who); got != m.Has(r, who) {
						t.Fatalf("%v: %s is in %v: %v", l, who, r, got)
					} else if got {
						yes++
					}
				}
			}
		}
	}
	if yes < 1000 {
		t.Error("few are in roles:", yes)
	}
}

// TestP40_3: by Stmts alone the same are in the role, and the same is asked.
func TestP40_3(t *testing.T) {
	d := plain.Dice(403)
	less := 0
	for range 800 {
		l := drawn(&d, 25)
		r := drawnRole(&d)
		f := chain.Back(l, r)
		if !slices.Equal(f.Members, plain.Least(f.Stmts).Of(r)) {
			t.Fatalf("%v, %v: %v", l, r, f)
		}
		g := chain.Back(f.Stmts, r)
		if !slices.Equal(f.Members, g.Members) || !slices.Equal(f.Asked, g.Asked) || !slices.Equal(f.Stmts, g.Stmts) {
			t.Fatalf("%v, %v: %v, then %v", l, r, f, g)
		}
		if len(f.Stmts) < len(syn.Sort(l...)) {
			less++
		}
	}
	if less < 400 {
		t.Error("few statements were left out:", less)
	}
}

// TestP40_4: On and Back agree.
func TestP40_4(t *testing.T) {
	d := plain.Dice(404)
	for range 300 {
		l := drawn(&d, 25)
		for _, who := range someone {
			on := chain.On(l, who)
			for _, owner := range someone {
				for _, name := range somehow {
					r := role(owner, name)
					if slices.Contains(on, r) != slices.Contains(chain.Back(l, r).Members, who) {
						t.Fatalf("%v: %s in %v", l, who, r)
					}
				}
			}
		}
	}
}

// TestWrong: of statements that aren't right nothing is promised, but that each call ends; where texts alone are wrong, layer 24's words still hold.
func TestWrong(t *testing.T) {
	wrong := []api.Stmt{
		{}, {Kind: 5, Head: ar, A: br, Who: "B"}, {Kind: -1, Head: ar, A: br}, {Kind: math.MaxInt, Head: bs}, {Kind: math.MinInt, Head: ar, A: br, B: bs},
		plain.Member(ar, ""), plain.Member(api.Role{}, ""), plain.Incl(ar, api.Role{}), plain.Link(ar, api.Role{}, ""), plain.Link(api.Role{}, ar, "r"), plain.Incl(api.Role{}, ar),
		{Kind: api.Both, Head: ar, A: bs, B: as}, plain.Member(as, "b"), plain.Member(bs, "b"), {Kind: api.Member, Head: as, Who: "B", A: br, Via: "r"}, plain.Member(role("b", "r"), "\xff"), {Kind: api.Incl, Head: bs, A: as, B: ar, Who: "Q"},
	}
	for n := range len(wrong) {
		l := slices.Concat(wrong[n:], wrong[:n])
		for _, r := range []api.Role{ar, as, br, bs, {}, role("b", "r"), role("", "r")} {
			same(t, l, plain.Least(l), r)
		}
		ons(t, l, plain.Least(l), "", "b", "B", "\xff", "Q", "A")
	}
}

// TestMany: chains that are long, and roles with many.
func TestMany(t *testing.T) {
	const n = 2000
	name := func(i int) string { return "P" + strconv.Itoa(i) }
	var l []api.Stmt
	for i := range n {
		l = append(l, plain.Incl(role(name(i), "r"), role(name(i+1), "r")), plain.Link(role(name(i), "s"), role(name(i), "t"), "s"), plain.Member(role(name(i), "t"), name(i+1)))
	}
	l = append(l, plain.Member(role(name(n), "r"), "Q"), plain.Member(role(name(n), "s"), "Q"))
	for _, r := range []string{"r", "s"} {
		f := chain.Back(l, role(name(0), r))
		if !slices.Equal(f.Members, []string{"Q"}) || !chain.Is(l, role(name(n/2), r), "Q") || chain.Is(l, role(name(0), r), name(1)) {
			t.Error(r, f.Members)
		}
		if want := map[string]int{"r": n + 1, "s": 2*n + 1}[r]; len(f.Asked) != want || len(f.Stmts) != want {
			t.Errorf("%s: %d are asked, %d taken, not %d", r, len(f.Asked), len(f.Stmts), want)
		}
	}
	if got := chain.On(l, "Q"); len(got) != 2*n+2 {
		t.Error("Q is in", len(got))
	}
	l = nil
	for i := range n {
		l = append(l, plain.Member(ar, name(i)), plain.Member(bs, name(i)))
	}
	l = append(l, plain.Both(br, ar, bs), plain.Link(as, br, "r"), plain.Incl(role("P7", "r"), ar))
	if f := chain.Back(l, as); len(f.Members) != n || len(f.Asked) != n+4 || !slices.IsSorted(f.Members) {
		t.Error(len(f.Members), len(f.Asked))
	}
}

// TestApart: what is handed in isn't changed, its spare room included, nor kept, and each answer is new memory.
func TestApart(t *testing.T) {
	room := append(stmts(t, "B.s <- C; A.r <- B.s.t; C.t <- D; B.s <- C; A.r <- B; A.r <- B.s & A.s; A.s <- C; E.u <- F"), plain.Member(br, "Spare"), plain.Member(bs, "Room"))
	rows := []api.Role{bs, ar, bs, br, as}
	l, row := room[:len(room)-2], rows[:3]
	was, wasRows := slices.Clone(room), slices.Clone(rows)
	f, on, local := chain.Back(l, ar), chain.On(l, "D"), chain.Local(l, row...)
	if !chain.Is(l, ar, "D") || !slices.Equal(room, was) || !slices.Equal(rows, wasRows) {
		t.Fatal("what was handed in isn't as it was")
	}
	want := chain.Found{Members: slices.Clone(f.Members), Asked: slices.Clone(f.Asked), Stmts: slices.Clone(f.Stmts)}
	wantOn, wantLocal := slices.Clone(on), slices.Clone(local)
	g, again, more := chain.Back(l, ar), chain.On(l, "D"), chain.Local(l, row...)
	for i := range g.Members[:cap(g.Members)] {
		g.Members[:cap(g.Members)][i] = "changed"
	}
	for _, x := range [][]api.Role{g.Asked, again} {
		clear(x[:cap(x)])
	}
	for _, x := range [][]api.Stmt{g.Stmts, more} {
		clear(x[:cap(x)])
	}
	if !slices.Equal(room, was) || !slices.Equal(rows, wasRows) {
		t.Error("an answer is not new memory")
	}
	clear(room)
	clear(rows)
	if !slices.Equal(f.Members, want.Members) || !slices.Equal(f.Asked, want.Asked) || !slices.Equal(f.Stmts, want.Stmts) || !slices.Equal(on, wantOn) || !slices.Equal(local, wantLocal) {
		t.Error("an answer isn't as it was")
	}
}
