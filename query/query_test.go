package query_test

import (
	"math"
	"slices"
	"strconv"
	"strings"
	"testing"

	"crupper/api"
	"crupper/query"
	"crupper/scan"
	"crupper/syn"
)

func role(owner, name string) api.Role { return api.Role{Owner: owner, Name: name} }

// about makes a query about one role, with principals or without.
func about(kind int, a api.Role, who ...string) api.Query {
	return api.Query{Kind: kind, A: a, Who: who}
}

// between makes a query about two roles.
func between(kind int, a, b api.Role) api.Query {
	return api.Query{Kind: kind, A: a, B: b}
}

var (
	ar   = role("A", "r")
	bs   = role("B", "s")
	long = role("ABCDEFGH", "abcdefgh")
)

// wrongKinds are kinds of no query.
var wrongKinds = []int{0, -1, 7, 8, 257, 258, math.MinInt, math.MaxInt}

// allKinds are the kinds of queries.
var allKinds = []int{api.AskHas, api.AskMay, api.AskWithin, api.AskEmpty, api.AskApart, api.AskIn}

// crowd is n principals of this many bytes each, rising.
func crowd(n, size int) []string {
	var l []string
	for i := range n {
		l = append(l, string(rune('A'+i))+strings.Repeat("z", size-1))
	}
	return l
}

// same holds queries against each other without the package's own Same.
func same(a, b api.Query) bool {
	return a.Kind == b.Kind && a.A == b.A && a.B == b.B && slices.Equal(a.Who, b.Who)
}

func isZero(q api.Query) bool { return same(q, api.Query{}) && len(q.Who) == 0 }

// sound are queries that are right, some of each kind.
func sound() []api.Query {
	var l []api.Query
	for _, kind := range []int{api.AskHas, api.AskMay, api.AskWithin} {
		for _, who := range [][]string{{"A"}, {"B"}, {"ABCDEFGH"}, {"B", "C"}, {"A", "AA", "Aa", "B"}, {"X1", "X10", "X2"}, crowd(11, 1), crowd(12, 1), crowd(12, 8)} {
			l = append(l, about(kind, ar, who...), about(kind, long, who...))
		}
	}
	for _, r := range []api.Role{ar, bs, long, role("B0b", "always")} {
		l = append(l, about(api.AskWithin, r), about(api.AskEmpty, r))
		for _, kind := range []int{api.AskApart, api.AskIn} {
			l = append(l, between(kind, ar, r), between(kind, r, ar), between(kind, r, r), between(kind, long, r))
		}
	}
	return append(l, api.Query{Kind: api.AskEmpty, A: ar, Who: []string{}}, api.Query{Kind: api.AskWithin, A: ar, Who: []string{}}, api.Query{Kind: api.AskIn, A: ar, B: bs, Who: []string{}})
}

// unsound are queries that aren't right, of the kinds that queries are of.
func unsound() []api.Query {
	noRoles := []api.Role{{}, role("A", ""), role("", "r"), role("a", "r"), role("A", "R"), role("r", "A"), role("ABCDEFGHI", "r"), role("A", "abcdefghi"), role("A ", "r"), role("A", "r.s")}
	noWho := [][]string{
		{""}, {"b"}, {"9"}, {"B "}, {"B.s"}, {"ABCDEFGHI"}, {"É"}, {"B", "c"}, {"", "B"}, {"B", ""}, {"A", "b", "C"},
		{"C", "B"}, {"A", "C", "B"}, {"B", "A", "C"}, {"Aa", "AA"}, {"X2", "X10"}, {"AA", "A"},
		{"B", "B"}, {"A", "B", "B"}, {"A", "A", "B"}, {"B", "C", "B"},
		crowd(13, 1), crowd(26, 2), append(crowd(12, 1), "L"), append(crowd(11, 1), "Y", "X"),
	}
	var l []api.Query
	for _, kind := range []int{api.AskHas, api.AskMay, api.AskWithin} {
		for _, who := range noWho {
			l = append(l, about(kind, ar, who...))
		}
		for _, r := range noRoles {
			l = append(l, about(kind, r, "B"))
		}
		for _, b := range []api.Role{bs, ar, role("B", ""), role("", "s")} {
			l = append(l, api.Query{Kind: kind, A: ar, B: b, Who: []string{"B"}})
		}
	}
	l = append(l, about(api.AskHas, ar), about(api.AskMay, ar), api.Query{Kind: api.AskHas, A: ar, Who: []string{}}, api.Query{Kind: api.AskMay, A: ar, Who: []string{}})
	l = append(l, between(api.AskHas, ar, bs), between(api.AskMay, ar, bs), between(api.AskWithin, ar, bs), between(api.AskWithin, ar, role("B", "")), between(api.AskWithin, ar, role("", "s")), about(api.AskWithin, api.Role{}))
	l = append(l, between(api.AskEmpty, ar, bs), between(api.AskEmpty, ar, ar), between(api.AskEmpty, ar, role("B", "")), between(api.AskEmpty, ar, role("", "s")), about(api.AskEmpty, ar, "B"), about(api.AskEmpty, ar, ""), about(api.AskEmpty, ar, "B", "C"))
	for _, r := range noRoles {
		l = append(l, about(api.AskEmpty, r), between(api.AskApart, r, bs), between(api.AskIn, r, bs), between(api.AskApart, ar, r), between(api.AskIn, ar, r))
	}
	for _, kind := range []int{api.AskApart, api.AskIn} {
		for _, who := range [][]string{{"B"}, {""}, {"B", "C"}, {"b"}} {
			l = append(l, api.Query{Kind: kind, A: ar, B: bs, Who: who}, about(kind, ar, who...))
		}
	}
	return append(l, api.Query{})
}

func TestP4_1Right(t *testing.T) {
	for _, q := range sound() {
		if !query.Right(q) {
			t.Errorf("%v isn't right", q)
		}
	}
	for _, q := range unsound() {
		if query.Right(q) {
			t.Errorf("%v is right", q)
		}
	}
}

// TestP4_1RightKinds: what is right of a kind isn't of those that have something else, and of no kind that is none.
func TestP4_1RightKinds(t *testing.T) {
	row := func(q api.Query) string {
		return strconv.FormatBool(q.B != api.Role{}) + strconv.FormatBool(len(q.Who) > 0)
	}
	may := map[int][]string{
		api.AskHas:    {"falsetrue"},
		api.AskMay:    {"falsetrue"},
		api.AskWithin: {"falsetrue", "falsefalse"},
		api.AskEmpty:  {"falsefalse"},
		api.AskApart:  {"truefalse"},
		api.AskIn:     {"truefalse"},
	}
	for _, q := range sound() {
		for _, kind := range slices.Concat(allKinds, wrongKinds) {
			other := q
			other.Kind = kind
			if want := slices.Contains(may[kind], row(q)); query.Right(other) != want {
				t.Errorf("%v: %v, not %v", other, !want, want)
			}
		}
	}
	for _, kind := range slices.Concat(allKinds, wrongKinds) {
		if query.Right(api.Query{Kind: kind, A: ar, B: bs, Who: []string{"B"}}) || query.Right(api.Query{Kind: kind}) {
			t.Errorf("%d: all, or nothing, is right", kind)
		}
	}
}

func TestP4_1Universal(t *testing.T) {
	for _, c := range []struct {
		kind int
		want bool
	}{
		{api.AskHas, true}, {api.AskMay, false}, {api.AskWithin, true}, {api.AskEmpty, false}, {api.AskApart, true}, {api.AskIn, true},
	} {
		if query.Universal(c.kind) != c.want {
			t.Errorf("%d: %v", c.kind, !c.want)
		}
	}
	for _, kind := range wrongKinds {
		if query.Universal(kind) {
			t.Errorf("%d is none", kind)
		}
	}
}

// lines are queries that are right, each with its line.
var lines = []struct {
	line string
	q    api.Query
}{
	{"always A.r has B", about(api.AskHas, ar, "B")},
	{"always A.r has B C D", about(api.AskHas, ar, "B", "C", "D")},
	{"can A.r have B", about(api.AskMay, ar, "B")},
	{"can A.r have A AA Aa", about(api.AskMay, ar, "A", "AA", "Aa")},
	{"always A.r within", about(api.AskWithin, ar)},
	{"always A.r within B", about(api.AskWithin, ar, "B")},
	{"always A.r within B C", about(api.AskWithin, ar, "B", "C")},
	{"can A.r be empty", about(api.AskEmpty, ar)},
	{"can B.s be empty", about(api.AskEmpty, bs)},
	{"always A.r apart B.s", between(api.AskApart, ar, bs)},
	{"always B.s apart A.r", between(api.AskApart, bs, ar)},
	{"always A.r apart A.r", between(api.AskApart, ar, ar)},
	{"always A.r in B.s", between(api.AskIn, ar, bs)},
	{"always B.s in A.r", between(api.AskIn, bs, ar)},
	{"always A.always has B", about(api.AskHas, role("A", "always"), "B")},
	{"can A.can have B", about(api.AskMay, role("A", "can"), "B")},
	{"can A.be be empty", about(api.AskEmpty, role("A", "be"))},
	{"always In.in in In.in", between(api.AskIn, role("In", "in"), role("In", "in"))},
	{"always A.has has Has", about(api.AskHas, role("A", "has"), "Has")},
	{"always A.within within", about(api.AskWithin, role("A", "within"))},
	{"always A.r apart B.grow", between(api.AskApart, ar, role("B", "grow"))},
	{"can ABCDEFGH.abcdefgh have A B C D E F G H I J K L", about(api.AskMay, long, crowd(12, 1)...)},
	{"always ABCDEFGH.abcdefgh in A2345678.a2345678", between(api.AskIn, long, role("A2345678", "a2345678"))},
}

func TestP4_2Print(t *testing.T) {
	for _, c := range lines {
		if got := query.Print(c.q); got != c.line {
			t.Errorf("%v: %q, not %q", c.q, got, c.line)
		}
	}
	longest := "always ABCDEFGH.abcdefgh within " + strings.Join(crowd(12, 8), " ")
	if got := query.Print(about(api.AskWithin, long, crowd(12, 8)...)); got != longest {
		t.Errorf("%q", got)
	}
	for _, q := range unsound() {
		if got := query.Print(q); got != "" {
			t.Errorf("%v isn't right, and has the line %q", q, got)
		}
	}
	for _, kind := range wrongKinds {
		for _, q := range []api.Query{about(kind, ar), about(kind, ar, "B"), between(kind, ar, bs), {Kind: kind}} {
			if got := query.Print(q); got != "" {
				t.Errorf("%v is of no kind, and has the line %q", q, got)
			}
		}
	}
}

func TestP4_2Words(t *testing.T) {
	want := map[int][]string{
		api.AskHas: {"has"}, api.AskMay: {"have"}, api.AskWithin: {"within"}, api.AskEmpty: {"be", "empty"}, api.AskApart: {"apart"}, api.AskIn: {"in"},
	}
	for _, kind := range allKinds {
		for _, q := range []api.Query{{Kind: kind}, about(kind, ar, "B", "C"), between(kind, ar, bs), about(kind, role("a", "R"), "b")} {
			got := query.Words(q)
			if !slices.Equal(got, want[kind]) {
				t.Errorf("%v: %q", q, got)
				continue
			}
			got[0] = "z"
			_ = append(got, "z")
			if got := query.Words(q); !slices.Equal(got, want[kind]) {
				t.Errorf("%v: an answer is kept: %q", q, got)
			}
		}
	}
	for _, kind := range wrongKinds {
		for _, q := range []api.Query{{Kind: kind}, about(kind, ar, "B"), between(kind, ar, bs)} {
			if got := query.Words(q); len(got) != 0 {
				t.Errorf("%v: %q", q, got)
			}
		}
	}
}

// TestP4_2WordsStand: the words are those that stand in the line between A's role and what is behind.
func TestP4_2WordsStand(t *testing.T) {
	for _, q := range sound() {
		words := strings.Fields(query.Print(q))
		behind := len(words) - len(q.Who)
		if q.B != (api.Role{}) {
			behind--
		}
		if got := query.Words(q); !slices.Equal(got, words[2:behind]) {
			t.Errorf("%q: %q", query.Print(q), got)
		}
	}
}

func TestP4_3Is(t *testing.T) {
	for _, line := range []string{
		"always", "can", "always A.r has B", "can A.r be empty", "  always", " can # x", "always#", "can.", "can&", "always<-A", "can A.r.s", "can can", "always & x", "can A.r <- B", "always grow A.r",
	} {
		if !query.Is(line) {
			t.Errorf("%q isn't one", line)
		}
	}
	for _, line := range []string{
		"", " ", "#always", "# can", "Always", "Can", "CAN", "A.r always", "A.can <- B", "A.r <- B # can", "grow A.r", "shrink A.r", "alway", "alwayss", "ca", "cans", "cannot", "can1", "always1", "a", "c", ".can", "& can", "<- always", "A can", "grow can", "has", "have", "in", "within", "be",
		// no tokens
		"?", "? can", "\tcan", "can\t", "can ?", "always \n", "1can", "alwayscan", "can ABCDEFGHI", "always A.abcdefghi in A.r",
		"can" + strings.Repeat(" ", api.MaxLine-2), "always # " + strings.Repeat("x", api.MaxLine),
	} {
		if query.Is(line) {
			t.Errorf("%q is one", line)
		}
	}
	if full := "can" + strings.Repeat(" ", api.MaxLine-3); !query.Is(full) {
		t.Error("a line that is as long as may be isn't one")
	}
}

// parsed holds what a query's line comes to against what it is to be.
func parsed(t *testing.T, line string, want api.Query) {
	t.Helper()
	q, at, why := query.Parse(line)
	if !same(q, want) || at != 0 || why != api.OK {
		t.Errorf("%q: %v, %d, %d; not %v", line, q, at, why, want)
	}
}

func TestP4_3Parse(t *testing.T) {
	for _, c := range lines {
		parsed(t, c.line, c.q)
		parsed(t, "  "+strings.ReplaceAll(strings.ReplaceAll(c.line, " ", "   "), ".", " . ")+"  ", c.q)
		parsed(t, c.line+"#", c.q)
		parsed(t, c.line+" # B ?\t& always", c.q)
		parsed(t, c.line+strings.Repeat(" ", api.MaxLine-len(c.line)), c.q)
		parsed(t, c.line+" #"+strings.Repeat("#", api.MaxLine-len(c.line)-2), c.q)
	}
}

// TestP4_3Who: principals stand in any order, as often as they like; the query has each once, rising by its bytes.
func TestP4_3Who(t *testing.T) {
	for _, c := range []struct {
		told string
		want []string
	}{
		{"C B", []string{"B", "C"}}, // the chapter's example
		{"B B", []string{"B"}},
		{"B B B", []string{"B"}},
		{"C B C B", []string{"B", "C"}},
		{"B C A B", []string{"A", "B", "C"}},
		{"A C B", []string{"A", "B", "C"}},
		{"Aa AA A B", []string{"A", "AA", "Aa", "B"}},
		{"X2 X10 X1", []string{"X1", "X10", "X2"}},
		{"A A B", []string{"A", "B"}},
		{"L K J I H G F E D C B A", crowd(12, 1)},
		{"L K J I H G F E D C B A L A F", crowd(12, 1)},
		{"A B C D E F G H I J K L L L L L L", crowd(12, 1)},
		{"A A A A A A A A A A A A A A A A", []string{"A"}},
		{"F A B L C E D G H K I J", crowd(12, 1)},
	} {
		parsed(t, "always A.r within "+c.told, about(api.AskWithin, ar, c.want...))
		parsed(t, "always A.r has "+c.told, about(api.AskHas, ar, c.want...))
		parsed(t, "can A.r have "+c.told, about(api.AskMay, ar, c.want...))
	}
}

// faulty holds what a line that is no query's comes to against what it is to be.
func faulty(t *testing.T, line string, at int, why api.Errno) {
	t.Helper()
	q, gotAt, gotWhy := query.Parse(line)
	if !isZero(q) || gotAt != at || gotWhy != why {
		t.Errorf("%q: %v, %d, %d; not %d, %d", line, q, gotAt, gotWhy, at, why)
	}
}

func TestP4_3Tokens(t *testing.T) {
	faulty(t, "?", 1, api.ErrByte)
	faulty(t, "always A.r has B ?", 18, api.ErrByte)
	faulty(t, "always A.r has B\n", 17, api.ErrByte)
	faulty(t, "can\tA.r be empty", 4, api.ErrByte)
	faulty(t, "can A.1 be empty", 7, api.ErrByte)
	faulty(t, "can A.r have B, C", 15, api.ErrByte)
	faulty(t, "always A.r has ABCDEFGHI", 16, api.ErrLong)
	faulty(t, "always A.abcdefghi has B", 10, api.ErrLong)
	faulty(t, "alwaysalways A.r has B", 1, api.ErrLong)
	faulty(t, "can A.r be empty"+strings.Repeat(" ", api.MaxLine-15), api.MaxLine+1, api.ErrLong)
	faulty(t, "can A.r be empty #"+strings.Repeat("x", api.MaxLine), api.MaxLine+1, api.ErrLong)
	// tokens come ahead of what they are
	faulty(t, "A.r can ?", 9, api.ErrByte)
	faulty(t, "always A.r hast ABCDEFGHI", 17, api.ErrLong)
	faulty(t, "always ?", 8, api.ErrByte)
	faulty(t, "always A.r has A B C D E F G H I J K L M ?", 42, api.ErrByte)
	faulty(t, "always A.r has A B C D E F G H I J K L M ABCDEFGHI", 42, api.ErrLong)
	faulty(t, "?"+strings.Repeat(" ", api.MaxLine), api.MaxLine+1, api.ErrLong)
}

func TestP4_3ErrForm(t *testing.T) {
	for _, c := range []struct {
		line string
		at   int
	}{
		{"A", 1}, {".", 1}, {"&", 1}, {"<-", 1}, {"  r", 3}, {"grow A.r", 1}, {"A.r <- B", 1}, {"Always A.r has B", 1}, {"Can", 1}, {"has", 1}, {"alway A.r has B", 1}, {"cannot A.r be empty", 1},
		{"always always A.r has B", 8}, {"always can", 8}, {"can can", 5}, {"can always", 5}, {"can a.r be empty", 5}, {"always .r", 8}, {"always & A", 8}, {"always <- A", 8},
		{"always A has B", 10}, {"always A r has B", 10}, {"always A B", 10}, {"can A&", 6}, {"can A <-", 7},
		{"always A.B has B", 10}, {"always A.. has", 10}, {"always A.& has", 10}, {"can A.<-", 7},
		{"always A.r B", 12}, {"always A.r.s has B", 11}, {"always A.r <- B", 12}, {"always A.r & B.s", 12}, {"always A.r hast B", 12}, {"always A.r hasB", 12}, {"always A.r Has B", 12}, {"always A.r always", 12}, {"can A.r can", 9}, {"can A.r.r be empty", 8}, {"can A.r B", 9},
		// words of the other lines
		{"always A.r have B", 12}, {"always A.r be empty", 12}, {"always A.r be", 12}, {"always A.r empty", 12},
		{"can A.r has B", 9}, {"can A.r within B", 9}, {"can A.r within", 9}, {"can A.r apart B.s", 9}, {"can A.r in B.s", 9}, {"can A.r empty", 9},
		{"can A.r be B", 12}, {"can A.r be be", 12}, {"can A.r be have B", 12}, {"can A.r be Empty", 12}, {"can A.r be emptyy", 12}, {"can A.r be .", 12}, {"can A.r be within", 12},
		// behind the words
		{"always A.r has b", 16}, {"always A.r has has B", 16}, {"always A.r has .", 16}, {"always A.r has & B", 16}, {"always A.r has <-", 16},
		{"always A.r has B.s", 17}, {"always A.r has B c", 18}, {"always A.r has B & C", 18}, {"always A.r has B <- C", 18}, {"always A.r has B has C", 18}, {"always A.r has B C . D", 20},
		{"can A.r have be empty", 14}, {"can A.r have B.s", 15}, {"can A.r have B C c D", 18}, {"can A.r have have", 14},
		{"always A.r within b", 19}, {"always A.r within B.s", 20}, {"always A.r within . B", 19}, {"always A.r within B B within", 23}, {"always A.r within within", 19}, {"always A.r within & B", 19},
		{"can A.r be empty B", 18}, {"can A.r be empty b", 18}, {"can A.r be empty.", 17}, {"can A.r be empty empty", 18}, {"can A.r be empty & B", 18},
		{"always A.r apart b", 18}, {"always A.r apart .", 18}, {"always A.r apart B C", 20}, {"always A.r apart B s", 20}, {"always A.r apart B.S", 20}, {"always A.r apart B..", 20}, {"always A.r apart B.s.t", 21}, {"always A.r apart B.s C", 22}, {"always A.r apart B.s C.t", 22}, {"always A.r apart B.s & C.t", 22}, {"always A.r apart B.s in", 22},
		{"always A.r in in", 15}, {"always A.r in & B.s", 15}, {"always A.r in B C", 17}, {"always A.r in B has", 17}, {"always A.r in B.<-", 17}, {"always A.r in B.s.t", 18}, {"always A.r in B.s t", 19}, {"always A.r in B.s C", 19}, {"always A.r in B.s <-", 19},
		// the first one that is wrong, whatever is behind, or wanting
		{"can A.r have & & &", 14}, {"always a r has", 8}, {"A A A # ?", 1}, {"  always  A  r", 14}, {"always A.r has B.s.t.u", 17},
	} {
		faulty(t, c.line, c.at, api.ErrForm)
	}
}

func TestP4_3ErrEnd(t *testing.T) {
	for _, c := range []struct {
		line string
		at   int
	}{
		{"", 1}, {" ", 1}, {"     ", 1}, {"#", 1}, {"   # always A.r has B", 1},
		{"always", 7}, {"always A", 9}, {"always A.", 10}, {"always A.r", 11}, {"always A.r has", 15}, {"always A.r apart", 17}, {"always A.r apart B", 19}, {"always A.r apart B.", 20}, {"always A.r in", 14}, {"always A.r in B", 16}, {"always A.r in B.", 17},
		{"can", 4}, {"can A", 6}, {"can A.", 7}, {"can A.r", 8}, {"can A.r have", 13}, {"can A.r be", 11},
		{"can    ", 4}, {"can#", 4}, {"can # A.r be empty", 4}, {"can   # A   ", 4}, {"  always  A . r  has  ", 21}, {"   can", 7}, {"always A.r has # B", 15}, {"can A.r be#empty", 11},
		{"always Alice.roles", 19}, {"always A.r in Bob", 18}, {"always A.r in Bob .  ", 20},
		{strings.Repeat(" ", api.MaxLine-3) + "can", api.MaxLine + 1},
	} {
		faulty(t, c.line, c.at, api.ErrEnd)
	}
}

func TestP4_3ErrMany(t *testing.T) {
	for _, begin := range []string{"always A.r has", "can A.r have", "always A.r within"} {
		full := begin + " " + strings.Join(crowd(12, 1), " ")
		faulty(t, full+" M", len(full)+2, api.ErrMany)
		faulty(t, full+"   M # x", len(full)+4, api.ErrMany)
		faulty(t, full+" M N O", len(full)+2, api.ErrMany)
		faulty(t, full+" Aa", len(full)+2, api.ErrMany)
		faulty(t, begin+" M L K J I H G F E D C B A", len(begin+" M L K J I H G F E D C B A"), api.ErrMany)
		// told again is told once
		faulty(t, full+" A L M", len(full)+6, api.ErrMany)
		faulty(t, begin+" A A B A C D E F G H I J K L L L M", len(begin+" A A B A C D E F G H I J K L L L M"), api.ErrMany)
		faulty(t, full+" M M", len(full)+2, api.ErrMany)
		// whichever is first from the left
		faulty(t, full+" M.s", len(full)+2, api.ErrMany)
		faulty(t, full+" M & m", len(full)+2, api.ErrMany)
		faulty(t, full+" m M", len(full)+2, api.ErrForm)
		faulty(t, full+" A . M", len(full)+4, api.ErrForm)
		faulty(t, full+".M", len(full)+1, api.ErrForm)
		faulty(t, full+" in M", len(full)+2, api.ErrForm)
		faulty(t, begin+" & "+strings.Join(crowd(13, 1), " "), len(begin)+2, api.ErrForm)
	}
	// where no principals are told, there are none too many
	faulty(t, "always A.r apart "+strings.Join(crowd(13, 1), " "), 20, api.ErrForm)
	faulty(t, "always A.r in "+strings.Join(crowd(13, 1), " "), 17, api.ErrForm)
	faulty(t, "can A.r be empty "+strings.Join(crowd(13, 1), " "), 18, api.ErrForm)
	faulty(t, "can A.r "+strings.Join(crowd(13, 1), " "), 9, api.ErrForm)
	faulty(t, strings.Join(crowd(13, 1), " "), 1, api.ErrForm)
}

// form is what the lines of a kind have: texts, or kinds of tokens by a capital letter (Prin, Name), and whether principals follow, and at least how many.
type form struct {
	kind   int
	tokens []string
	who    bool
	least  int
}

func forms() []form {
	role := "P . N"
	row := func(text string) []string { return strings.Fields(text) }
	return []form{
		{api.AskHas, row("always " + role + " has"), true, 1},
		{api.AskMay, row("can " + role + " have"), true, 1},
		{api.AskWithin, row("always " + role + " within"), true, 0},
		{api.AskEmpty, row("can " + role + " be empty"), false, 0},
		{api.AskApart, row("always " + role + " apart " + role), false, 0},
		{api.AskIn, row("always " + role + " in " + role), false, 0},
	}
}

// alphabet are texts of all kinds of tokens, and all words that lines of queries have.
var alphabet = []string{"always", "can", "has", "have", "within", "be", "empty", "apart", "in", "role", "Bob", "Al", ".", "<-", "&"}

func isPrin(text string) bool { return text == "Bob" || text == "Al" }

// goesOn: does a line of this form begin with these tokens?
func (f form) goesOn(row []string) bool {
	for i, text := range row {
		switch {
		case i >= len(f.tokens):
			if !f.who || !isPrin(text) {
				return false
			}
		case f.tokens[i] == "P":
			if !isPrin(text) {
				return false
			}
		case f.tokens[i] == "N":
			if text[0] < 'a' || text[0] > 'z' {
				return false
			}
		case f.tokens[i] != text:
			return false
		}
	}
	return true
}

// lineOf makes a line of these texts, and tells each one's place, and the one behind the last one.
func lineOf(row []string) (string, []int) {
	line, places := "", []int{1}
	for i, text := range row {
		line += strings.Repeat(" ", i%2+1)
		places[i] = len(line) + 1
		line += text
		places = append(places, len(line)+1)
	}
	return line + "  # Bob", places
}

// ends calls see with all rows of at most n texts behind the row that is given.
func ends(row []string, n int, see func(row []string)) {
	see(row)
	if n == 0 {
		return
	}
	for _, text := range alphabet {
		ends(append(slices.Clone(row), text), n-1, see)
	}
}

// wanted is what a row of texts is to come to, reckoned from the promise's words.
func wanted(row []string) (kind, n int, why api.Errno) {
	for _, f := range forms() {
		if f.goesOn(row) && len(row) >= len(f.tokens)+f.least {
			return f.kind, 0, api.OK
		}
	}
	goesOn := func(n int) bool {
		return slices.ContainsFunc(forms(), func(f form) bool { return f.goesOn(row[:n]) })
	}
	for n < len(row) && goesOn(n+1) {
		n++
	}
	if n < len(row) {
		return 0, n, api.ErrForm
	}
	return 0, n, api.ErrEnd
}

// TestP4_3AnyTokens: of all rows of few tokens, and of all behind each beginning of a line.
func TestP4_3AnyTokens(t *testing.T) {
	seen := map[api.Errno]int{}
	see := func(row []string) {
		line, places := lineOf(row)
		q, at, why := query.Parse(line)
		kind, n, wantWhy := wanted(row)
		seen[wantWhy]++
		switch {
		case wantWhy == api.OK && (q.Kind != kind || !query.Right(q) || at != 0 || why != api.OK):
			t.Errorf("%q: %v, %d, %d", line, q, at, why)
		case wantWhy != api.OK && (!isZero(q) || at != places[n] || why != wantWhy):
			t.Errorf("%q: %v, %d, %d; not %d, %d", line, q, at, why, places[n], wantWhy)
		}
		if begins := len(row) > 0 && (row[0] == "always" || row[0] == "can"); query.Is(line) != begins {
			t.Errorf("%q is one: %v", line, !begins)
		}
	}
	ends(nil, 2, see)
	for _, line := range []string{"always Bob.role has Al Bob", "can Bob.role have Bob Al", "always Bob.has within Al Bob", "can Bob.role be empty", "always Bob.role apart Al.role", "always Bob.role in Bob.in"} {
		row := strings.Fields(strings.ReplaceAll(line, ".", " . "))
		for n := range len(row) + 1 {
			ends(row[:n], 2, see)
		}
	}
	if seen[api.OK] == 0 || seen[api.ErrEnd] == 0 || seen[api.ErrForm] == 0 {
		t.Error("not all has been seen:", seen)
	}
}

func TestP4_4Roles(t *testing.T) {
	for _, kind := range slices.Concat(allKinds, wrongKinds) {
		for _, q := range []api.Query{{Kind: kind, A: ar, B: bs, Who: []string{"C"}}, between(kind, bs, ar), between(kind, ar, ar), about(kind, ar, "B"), {Kind: kind, A: role("a", ""), B: role("", "B")}, {Kind: kind}} {
			want := []api.Role{q.A}
			if kind == api.AskApart || kind == api.AskIn {
				want = append(want, q.B)
			}
			got := query.Roles(q)
			if !slices.Equal(got, want) {
				t.Errorf("%v: %q, not %q", q, got, want)
				continue
			}
			got[0].Owner = "Z"
			_ = append(got, ar)
			if again := query.Roles(q); !slices.Equal(again, want) {
				t.Errorf("%v: an answer is kept: %q", q, again)
			}
		}
	}
}

func TestP4_4Prins(t *testing.T) {
	for _, kind := range slices.Concat(allKinds, wrongKinds) {
		for _, who := range [][]string{nil, {}, {"B"}, {"B", "C"}, {"C", "B", "B"}, {"", "b", "É"}, crowd(26, 1)} {
			q := api.Query{Kind: kind, A: ar, B: bs, Who: who}
			if got := query.Prins(q); !slices.Equal(got, who) {
				t.Errorf("%v: %q", q, got)
			}
		}
	}
}

// TestApart: what is handed in stays, its spare room included, and isn't kept; answers are new memory.
func TestApart(t *testing.T) {
	room := []string{"C", "B", "B", "D", "A"}
	before := slices.Clone(room)
	for _, kind := range allKinds {
		for n := range len(room) {
			q := api.Query{Kind: kind, A: ar, B: bs, Who: room[:n]}
			query.Right(q)
			query.Words(q)
			query.Print(q)
			query.Roles(q)
			query.Same(q, q)
			got := query.Prins(q)
			for i := range got {
				got[i] = "z"
			}
			_ = append(got, "z")
			if !slices.Equal(room, before) {
				t.Fatalf("%d, %d: what was handed in is changed: %q", kind, n, room)
			}
		}
	}
	rising := []string{"B", "C", "A"}
	q := about(api.AskHas, ar, rising[:2]...)
	kept := query.Prins(q)
	query.Print(q)
	clear(rising[:2])
	if !slices.Equal(kept, []string{"B", "C"}) || rising[2] != "A" {
		t.Errorf("what was handed in is kept: %q", kept)
	}
	first, _, _ := query.Parse("always A.r within C B")
	first.Who[0] = "z"
	parsed(t, "always A.r within C B", about(api.AskWithin, ar, "B", "C"))
}

func TestSame(t *testing.T) {
	all := slices.Concat(sound(), unsound())
	for i, a := range all {
		for j, b := range all {
			if query.Same(a, b) != same(a, b) || i == j && !query.Same(a, b) {
				t.Errorf("%v, %v: %v", a, b, query.Same(a, b))
			}
		}
	}
	q := api.Query{Kind: api.AskIn, A: ar, B: bs, Who: []string{"B", "C"}}
	for _, other := range []api.Query{
		{Kind: api.AskApart, A: ar, B: bs, Who: []string{"B", "C"}},
		{Kind: api.AskIn, A: role("B", "r"), B: bs, Who: []string{"B", "C"}},
		{Kind: api.AskIn, A: role("A", "s"), B: bs, Who: []string{"B", "C"}},
		{Kind: api.AskIn, A: ar, B: role("A", "s"), Who: []string{"B", "C"}},
		{Kind: api.AskIn, A: ar, B: role("B", "r"), Who: []string{"B", "C"}},
		{Kind: api.AskIn, A: bs, B: ar, Who: []string{"B", "C"}},
		{Kind: api.AskIn, A: ar, B: bs, Who: []string{"C", "B"}},
		{Kind: api.AskIn, A: ar, B: bs, Who: []string{"B"}},
		{Kind: api.AskIn, A: ar, B: bs, Who: []string{"B", "C", "C"}},
		{Kind: api.AskIn, A: ar, B: bs},
		{},
	} {
		if query.Same(q, other) || query.Same(other, q) {
			t.Errorf("%v, %v are the same", q, other)
		}
	}
	other := q
	other.Who = slices.Clone(q.Who)
	if !query.Same(q, other) || !query.Same(api.Query{}, api.Query{Who: []string{}}) || !query.Same(about(9, ar), about(9, ar)) {
		t.Error("what is the same isn't")
	}
}

func TestP4_5Parsed(t *testing.T) {
	seen := map[int]int{}
	see := func(q api.Query) {
		if !query.Right(q) {
			return
		}
		seen[q.Kind]++
		line := query.Print(q)
		got, at, why := query.Parse(line)
		if !same(got, q) || at != 0 || why != api.OK || !query.Is(line) {
			t.Errorf("%v: %q is parsed as %v, %d, %d", q, line, got, at, why)
		}
		if l, _, _ := scan.Tokens(line); syn.PrintRole(q.A) != scan.Print(l[1:4]...) {
			t.Errorf("%q isn't about %q", line, q.A)
		}
	}
	for _, q := range sound() {
		see(q)
	}
	texts := []string{"A", "Aa", "B", "always", "in", "r", ""}
	for _, owner := range texts {
		for _, name := range texts {
			for _, other := range texts {
				for _, kind := range slices.Concat(allKinds, wrongKinds) {
					r := role(owner, name)
					see(about(kind, r))
					see(about(kind, r, other))
					see(about(kind, r, "Aa", other))
					see(between(kind, r, role(owner, other)))
					see(between(kind, r, role(other, name)))
				}
			}
		}
	}
	for _, kind := range allKinds {
		if seen[kind] < 10 {
			t.Error("too few have been seen:", seen)
		}
	}
}
