package names_test

import (
	"math"
	"slices"
	"strconv"
	"testing"

	"crupper/api"
	"crupper/names"
)

// TestP1_1EachByte: which bytes a name begins with, and goes on with, is asked of all 256.
func TestP1_1EachByte(t *testing.T) {
	for c := range 256 {
		capital, small, digit := c >= 65 && c <= 90, c >= 97 && c <= 122, c >= 48 && c <= 57
		alone := string([]byte{byte(c)})
		if names.IsPrin(alone) != capital || names.IsName(alone) != small {
			t.Errorf("byte %d alone: %v %v", c, names.IsPrin(alone), names.IsName(alone))
		}
		within := capital || small || digit
		for _, more := range []string{alone, "z" + alone, alone + "Z", "a0" + alone + "9Z", "abcdef" + alone} {
			if names.IsPrin("A"+more) != within || names.IsPrin("Z"+more) != within {
				t.Errorf("principal with byte %d: %q", c, more)
			}
			if names.IsName("a"+more) != within || names.IsName("z"+more) != within {
				t.Errorf("name with byte %d: %q", c, more)
			}
			if names.IsPrin("a"+more) || names.IsName("A"+more) || names.IsPrin("0"+more) || names.IsName("0"+more) {
				t.Errorf("a wrong first byte, and %q", more)
			}
		}
	}
}

func TestP1_1Words(t *testing.T) {
	for _, c := range []struct {
		s          string
		prin, name bool
	}{
		{"", false, false},
		{"A", true, false},
		{"a", false, true},
		{"Bob", true, false},
		{"bob", false, true},
		{"B0b", true, false},
		{"bOB", false, true},
		{"ABCDEFGH", true, false},
		{"A2345678", true, false},
		{"abcdefgh", false, true},
		{"a2345678", false, true},
		{"ABCDEFGHI", false, false},
		{"A23456789", false, false},
		{"abcdefghi", false, false},
		{"a23456789", false, false},
		{"1", false, false},
		{"1A", false, false},
		{"1a", false, false},
		{" A", false, false},
		{"A ", false, false},
		{" a", false, false},
		{"a ", false, false},
		{"A.r", false, false},
		{"A_b", false, false},
		{"a-b", false, false},
		{"A\n", false, false},
		{"A\x00", false, false},
		{"É", false, false},
		{"é", false, false},
		{"Aé", false, false},
		{"aé", false, false},
		{"A٣", false, false},
		{"\xff", false, false},
		{"A\xff", false, false},
	} {
		if names.IsPrin(c.s) != c.prin || names.IsName(c.s) != c.name {
			t.Errorf("%q: %v %v", c.s, names.IsPrin(c.s), names.IsName(c.s))
		}
	}
}

// has holds a table against all that it is to have, in order.
func has(t *testing.T, what string, l *names.Table, want ...string) {
	t.Helper()
	if l == nil {
		t.Fatalf("%s: no table", what)
	}
	if l.Len() != len(want) || !slices.Equal(l.All(), want) {
		t.Fatalf("%s: %d, %q; not %q", what, l.Len(), l.All(), want)
	}
	for i, s := range want {
		if l.At(i) != s || l.Find(s) != i {
			t.Errorf("%s: %q is at %d, and %q at its place", what, s, l.Find(s), l.At(i))
		}
	}
	for _, i := range []int{-1, len(want), len(want) + 1, math.MinInt, math.MaxInt} {
		if l.At(i) != "" {
			t.Errorf("%s: %q at %d", what, l.At(i), i)
		}
	}
}

func TestP1_2New(t *testing.T) {
	has(t, "none", names.New())
	has(t, "nil", names.New([]string(nil)...))
	has(t, "no list", names.New([]string{}...))
	has(t, "one", names.New("A"), "A")
	has(t, "doubled", names.New("A", "A", "A"), "A")
	has(t, "an order", names.New("X1", "B"), "B", "X1")
	has(t, "by bytes", names.New("b", "B", "a", "A", "é", "\xff", "9", "B ", "B0"), "9", "A", "B", "B ", "B0", "a", "b", "é", "\xff")
	has(t, "numbers by bytes", names.New("X9", "X10", "X1"), "X1", "X10", "X9")
	has(t, "an empty text", names.New("B", "", "B", ""), "", "B")
	has(t, "any texts", names.New("A long text, that is no name", "\n", "\x00"), "\x00", "\n", "A long text, that is no name")
}

func TestP1_2Find(t *testing.T) {
	l := names.New("D", "B", "F")
	for _, s := range []string{"", "A", "C", "E", "G", "b", "B ", "BB", "\xff"} {
		if l.Find(s) != -1 {
			t.Errorf("%q is found at %d", s, l.Find(s))
		}
	}
	if names.New().Find("") != -1 || names.New("").Find("") != 0 {
		t.Error("the empty text")
	}
}

func TestP1_2With(t *testing.T) {
	l := names.New("C", "A")
	more := l.With("B", "A", "B", "D")
	has(t, "with more", more, "A", "B", "C", "D")
	has(t, "as it was", l, "A", "C")
	has(t, "with none", l.With(), "A", "C")
	has(t, "of none", names.New().With("B", "A", "B"), "A", "B")
	has(t, "again and again", l.With("E").With("D").With("E", "B"), "A", "B", "C", "D", "E")
	has(t, "another one", l.With("Z"), "A", "C", "Z")
	has(t, "more as it was", more, "A", "B", "C", "D")
	has(t, "as it still was", l, "A", "C")
}

// fresh reckons Fresh from the promise's words.
func fresh(n int, in ...string) []string {
	var l []string
	for i := 1; len(l) < min(n, 1000); i++ {
		if s := "X" + strconv.Itoa(i); !slices.Contains(in, s) {
			l = append(l, s)
		}
	}
	return l
}

func TestP1_2Fresh(t *testing.T) {
	var many []string
	for i := range 1005 {
		many = append(many, "X"+strconv.Itoa(i+1))
	}
	rows := [][]string{nil, {"A", "B"}, {"X1"}, {"X2"}, {"X1", "B"}, {"X1", "X3", "X4", "X10"}, {"x1", "X01", "X", "X1 ", "X0", "X-1"}, {"X999", "X1000", "X1001"}, many}
	for _, in := range rows {
		l := names.New(in...)
		for _, n := range []int{math.MinInt, -1, 0, 1, 2, 3, 4, 12, 999, 1000, 1001, 5000, math.MaxInt} {
			if got, want := l.Fresh(n), fresh(n, in...); !slices.Equal(got, want) {
				t.Fatalf("%d of %.40q: %d: %.60q; not %d: %.60q", n, in, len(got), got, len(want), want)
			}
		}
		if l.Len() != len(in) {
			t.Errorf("%.40q: what is fresh came in", in)
		}
	}
	if f := names.New("X1", "B").Fresh(2); !slices.Equal(f, []string{"X2", "X3"}) {
		t.Error("the example:", f)
	}
	if f := names.New(many...).Fresh(2); !slices.Equal(f, []string{"X1006", "X1007"}) {
		t.Error("behind a thousand:", f)
	}
}

func TestP1_2Nil(t *testing.T) {
	var l *names.Table
	if l.Len() != 0 || l.At(0) != "" || l.At(-1) != "" || l.Find("") != -1 || l.Find("A") != -1 || len(l.All()) != 0 {
		t.Error("nil is not as of none")
	}
	if !slices.Equal(l.Fresh(3), []string{"X1", "X2", "X3"}) || len(l.Fresh(0)) != 0 || len(l.Fresh(2000)) != 1000 {
		t.Error("what is fresh:", l.Fresh(3))
	}
	has(t, "nil with none", l.With())
	has(t, "nil with some", l.With("B", "A", "B"), "A", "B")
}

// TestP1_2Apart: what is handed in stays, and isn't kept; what is answered is the asker's.
func TestP1_2Apart(t *testing.T) {
	room := []string{"C", "A", "C", "B", "spare", "room"}
	given := room[:4]
	l := names.New(given...)
	m := l.With(given...)
	if !slices.Equal(room, []string{"C", "A", "C", "B", "spare", "room"}) {
		t.Error("what was handed in is changed:", room)
	}
	for i := range room {
		room[i] = "Z"
	}
	has(t, "New", l, "A", "B", "C")
	has(t, "With", m, "A", "B", "C")

	more := []string{"E", "D", "E", "spare"}
	n := l.With(more[:3]...)
	if !slices.Equal(more, []string{"E", "D", "E", "spare"}) {
		t.Error("what With was handed is changed:", more)
	}
	clear(more)
	has(t, "With more", n, "A", "B", "C", "D", "E")

	one := []string{"A", "spare"}
	o := names.New(one[:1]...)
	p := o.With()
	one[0] = "Z"
	has(t, "New of one", o, "A")
	has(t, "With of one", p, "A")

	a, b := l.All(), l.All()
	a[0] = "Z"
	_ = append(a[:1], "Y")
	if b[0] != "A" || b[1] != "B" {
		t.Error("two answers share")
	}
	has(t, "when an answer was changed", l, "A", "B", "C")
	f := l.Fresh(2)
	f[0] = "Z"
	if !slices.Equal(l.Fresh(2), []string{"X1", "X2"}) {
		t.Error("fresh texts share")
	}
}

func TestP1_3Undo(t *testing.T) {
	var in []string
	for i := range 500 {
		in = append(in, "N"+strconv.Itoa(i*7919%500))
	}
	in = append(in, in...)
	in = append(in, "", "a", "\xff\x00")
	l := names.New(in...)
	if l.Len() != 503 {
		t.Fatal(l.Len())
	}
	for i := range l.Len() {
		if l.Find(l.At(i)) != i {
			t.Errorf("at %d: %q, found at %d", i, l.At(i), l.Find(l.At(i)))
		}
	}
	for _, s := range in {
		if i := l.Find(s); i < 0 || i >= l.Len() || l.At(i) != s {
			t.Errorf("%q is found at %d", s, i)
		}
	}
}

func TestP1_4AnyOrder(t *testing.T) {
	want := []string{"A", "X2", "a", "b"}
	for n := range 4 * 4 * 4 * 4 { // all orders are among these, with one of them put where it was left out
		l := []string{want[n%4], want[n/4%4], want[n/16%4], want[n/64]}
		for _, s := range want {
			if !slices.Contains(l, s) {
				l = append(l, s)
			}
		}
		has(t, "an order", names.New(l...), want...)
		has(t, "some later", names.New(l[:2]...).With(l[2:]...), want...)
		has(t, "one by one", names.New().With(l[0]).With(l[1]).With(l[2:]...).With(l...), want...)
	}
}

func TestP1_4Fresh(t *testing.T) {
	var in []string
	for i := range 1200 {
		if i%3 != 0 {
			in = append(in, "X"+strconv.Itoa(i))
		}
	}
	l := names.New(in...)
	f := l.Fresh(1000)
	if len(f) != 1000 || names.New(f...).Len() != 1000 {
		t.Fatal("not a thousand")
	}
	for _, s := range f {
		if l.Find(s) != -1 || slices.Contains(in, s) {
			t.Errorf("%q is in", s)
		}
		if len(s) <= api.MaxName && !names.IsPrin(s) {
			t.Errorf("%q is no principal", s)
		}
	}
	has(t, "what is fresh now", names.New(l.With(f...).Fresh(1)...), fresh(1, append(f, in...)...)...)
}
