package scan_test

import (
	"slices"
	"strings"
	"testing"

	"crupper/api"
	"crupper/scan"
)

func TestP2_1Lines(t *testing.T) {
	for _, c := range []struct {
		text string
		want []string
	}{
		{"", nil},
		{"a", []string{"a"}},
		{"\n", []string{""}},
		{"\n\n", []string{"", ""}},
		{"a\n", []string{"a"}},
		{"a\nb", []string{"a", "b"}},
		{"a\nb\n", []string{"a", "b"}},
		{"a\n\nb\n\n", []string{"a", "", "b", ""}},
		{"\na", []string{"", "a"}},
		{"a\n ", []string{"a", " "}},
		{" a # x \n\t", []string{" a # x ", "\t"}},
		{"a\r\nb\r", []string{"a\r", "b\r"}},
		{"a\x0bb\x0cc\u0085d\u2028e", []string{"a\x0bb\x0cc\u0085d\u2028e"}},
		{"\xff\n\x00\n\xc3", []string{"\xff", "\x00", "\xc3"}},
		{"é\n猫", []string{"é", "猫"}},
	} {
		if got := scan.Lines(c.text); !slices.Equal(got, c.want) {
			t.Errorf("%q: %q, not %q", c.text, got, c.want)
		}
	}
	long := strings.Repeat("x", 9000)
	if got := scan.Lines(long + "\n" + long); !slices.Equal(got, []string{long, long}) {
		t.Error("long lines")
	}
	if got := scan.Lines(strings.Repeat("\n", 10000)); len(got) != 10000 {
		t.Error("many lines:", len(got))
	}
	a := scan.Lines("a\nb\n")
	a[0] = "z"
	if b := scan.Lines("a\nb\n"); b[0] != "a" {
		t.Error("answers share")
	}
}

func TestP2_1Trim(t *testing.T) {
	for _, c := range [][2]string{
		{"", ""},
		{" ", ""},
		{"#", ""},
		{"   # x", ""},
		{"a", "a"},
		{"  a  ", "a"},
		{"a#", "a"},
		{"a#b#c", "a"},
		{" a  b # c # d ", "a  b"},
		{"a # b", "a"},
		{"#a", ""},
		{"\ta\t", "\ta\t"},
		{" \ta\r\n ", "\ta\r\n"},
		{"\u00a0a\u00a0", "\u00a0a\u00a0"},
		{" é ", "é"},
		{" \xff ", "\xff"},
		{" . & <- ? ", ". & <- ?"},
		{strings.Repeat(" ", 300) + "a" + strings.Repeat(" ", 300), "a"},
	} {
		if got := scan.Trim(c[0]); got != c[1] {
			t.Errorf("%q: %q, not %q", c[0], got, c[1])
		}
	}
}

func tok(kind int, text string, col int) api.Token {
	return api.Token{Kind: kind, Text: text, Col: col}
}

func TestP2_2Tokens(t *testing.T) {
	eight := "a234567H"
	for _, c := range []struct {
		line string
		want []api.Token
	}{
		{"", nil},
		{"    ", nil},
		{"#", nil},
		{"  # A.r <- B", nil},
		{"A", []api.Token{tok(api.TokPrin, "A", 1)}},
		{"a", []api.Token{tok(api.TokName, "a", 1)}},
		{"Z", []api.Token{tok(api.TokPrin, "Z", 1)}},
		{"z", []api.Token{tok(api.TokName, "z", 1)}},
		{".", []api.Token{tok(api.TokDot, ".", 1)}},
		{"&", []api.Token{tok(api.TokAmp, "&", 1)}},
		{"<-", []api.Token{tok(api.TokArrow, "<-", 1)}},
		{"  A09z  ", []api.Token{tok(api.TokPrin, "A09z", 3)}},
		{"aZ09", []api.Token{tok(api.TokName, "aZ09", 1)}},
		{eight + " " + strings.ToUpper(eight), []api.Token{tok(api.TokName, eight, 1), tok(api.TokPrin, "A234567H", 10)}},
		{"A.r <- B # x", []api.Token{tok(api.TokPrin, "A", 1), tok(api.TokDot, ".", 2), tok(api.TokName, "r", 3), tok(api.TokArrow, "<-", 5), tok(api.TokPrin, "B", 8)}},
		{"A.r<-B.s&C.t#", []api.Token{
			tok(api.TokPrin, "A", 1), tok(api.TokDot, ".", 2), tok(api.TokName, "r", 3), tok(api.TokArrow, "<-", 4),
			tok(api.TokPrin, "B", 6), tok(api.TokDot, ".", 7), tok(api.TokName, "s", 8), tok(api.TokAmp, "&", 9),
			tok(api.TokPrin, "C", 10), tok(api.TokDot, ".", 11), tok(api.TokName, "t", 12)}},
		{" A . r ", []api.Token{tok(api.TokPrin, "A", 2), tok(api.TokDot, ".", 4), tok(api.TokName, "r", 6)}},
		{"..<-<-&&", []api.Token{tok(api.TokDot, ".", 1), tok(api.TokDot, ".", 2), tok(api.TokArrow, "<-", 3), tok(api.TokArrow, "<-", 5), tok(api.TokAmp, "&", 7), tok(api.TokAmp, "&", 8)}},
		{"always grow", []api.Token{tok(api.TokName, "always", 1), tok(api.TokName, "grow", 8)}},
		{"A#?é\t\n123456789ABCDEFGHI", []api.Token{tok(api.TokPrin, "A", 1)}},
		{"A ## B", []api.Token{tok(api.TokPrin, "A", 1)}},
	} {
		got, at, why := scan.Tokens(c.line)
		if !slices.Equal(got, c.want) || at != 0 || why != api.OK {
			t.Errorf("%q: %v, %d, %d; not %v", c.line, got, at, why, c.want)
		}
	}
}

// wrong holds the place and the error of a line that has no tokens against what they are to be.
func wrong(t *testing.T, line string, at int, why api.Errno) {
	t.Helper()
	l, gotAt, gotWhy := scan.Tokens(line)
	if len(l) != 0 || gotAt != at || gotWhy != why {
		t.Errorf("%q: %v, %d, %d; not %d, %d", line, l, gotAt, gotWhy, at, why)
	}
}

func TestP2_2ErrByte(t *testing.T) {
	for c := range 256 {
		s := string([]byte{byte(c)})
		if strings.ContainsAny(s, " .&#") || c >= 65 && c <= 90 || c >= 97 && c <= 122 {
			if _, at, why := scan.Tokens(s); at != 0 || why != api.OK {
				t.Errorf("byte %d: %d, %d", c, at, why)
			}
			continue
		}
		wrong(t, s, 1, api.ErrByte)
		wrong(t, "  "+s, 3, api.ErrByte)
		wrong(t, "A.r <- "+s, 8, api.ErrByte)
		wrong(t, "A."+s+" ? ABCDEFGHI", 3, api.ErrByte)
		if c < 48 || c > 57 { // a digit goes on with a word
			wrong(t, "Ab"+s+"c", 3, api.ErrByte)
		}
	}
	wrong(t, "A ?", 3, api.ErrByte)
	wrong(t, "<", 1, api.ErrByte)
	wrong(t, "< -", 1, api.ErrByte)
	wrong(t, "A <", 3, api.ErrByte)
	wrong(t, "A <#-", 3, api.ErrByte)
	wrong(t, "<--", 3, api.ErrByte)
	wrong(t, "<<-", 1, api.ErrByte)
	wrong(t, "->", 1, api.ErrByte)
	wrong(t, "A.1", 3, api.ErrByte)
	wrong(t, "A.r 0", 5, api.ErrByte)
	wrong(t, "12345678", 1, api.ErrByte)
	wrong(t, "A\n", 2, api.ErrByte)
	wrong(t, "A\t.r", 2, api.ErrByte)
	wrong(t, "é", 1, api.ErrByte)
	wrong(t, "Aé", 2, api.ErrByte)
	wrong(t, "A \xff", 3, api.ErrByte)
}

func TestP2_2ErrLong(t *testing.T) {
	wrong(t, "ABCDEFGHI", 1, api.ErrLong)
	wrong(t, "abcdefghi", 1, api.ErrLong)
	wrong(t, "  a23456789", 3, api.ErrLong)
	wrong(t, "A.r <- ABCDEFGH9", 8, api.ErrLong)
	wrong(t, "A.abcdefghijklmnop <- ?", 3, api.ErrLong)
	wrong(t, "abcdefghi?", 1, api.ErrLong)
	wrong(t, "abcdefgh?", 9, api.ErrByte)
	wrong(t, "? abcdefghi", 1, api.ErrByte)
	wrong(t, "abcdefghi#", 1, api.ErrLong)
	wrong(t, strings.Repeat("a", api.MaxLine), 1, api.ErrLong)
}

func TestP2_2LongLine(t *testing.T) {
	fits := "A" + strings.Repeat(" ", api.MaxLine-2) + "b"
	l, at, why := scan.Tokens(fits)
	if !slices.Equal(l, []api.Token{tok(api.TokPrin, "A", 1), tok(api.TokName, "b", 200)}) || at != 0 || why != api.OK {
		t.Error("a line of MaxLine:", l, at, why)
	}
	if l, at, why := scan.Tokens("A#" + strings.Repeat("x", api.MaxLine-2)); len(l) != 1 || at != 0 || why != api.OK {
		t.Error("a line of MaxLine with a comment:", l, at, why)
	}
	if l, at, why := scan.Tokens(strings.Repeat(".", api.MaxLine)); len(l) != api.MaxLine || at != 0 || why != api.OK {
		t.Error("a line of dots:", len(l), at, why)
	}
	wrong(t, fits+"?", api.MaxLine+1, api.ErrLong)
	wrong(t, fits+" ", api.MaxLine+1, api.ErrLong)
	wrong(t, fits+"#", api.MaxLine+1, api.ErrLong)
	wrong(t, "A#"+strings.Repeat("x", api.MaxLine-1), api.MaxLine+1, api.ErrLong)
	wrong(t, strings.Repeat(" ", api.MaxLine+1), api.MaxLine+1, api.ErrLong)
	wrong(t, "?"+strings.Repeat(" ", api.MaxLine), api.MaxLine+1, api.ErrLong)
	wrong(t, strings.Repeat("a", api.MaxLine+1), api.MaxLine+1, api.ErrLong)
	wrong(t, strings.Repeat("x\n", 5000), api.MaxLine+1, api.ErrLong)
}

func TestP2_2Apart(t *testing.T) {
	a, _, _ := scan.Tokens("A.r")
	b, _, _ := scan.Tokens("A.r")
	a[0].Text = "Z"
	_ = append(a[:1], tok(api.TokAmp, "&", 9))
	if b[0].Text != "A" || b[1].Text != "." {
		t.Error("answers share")
	}
}

func TestP2_3Print(t *testing.T) {
	prin, name, dot := tok(api.TokPrin, "A", 0), tok(api.TokName, "r", -3), tok(api.TokDot, ".", 7)
	arrow, amp := tok(api.TokArrow, "<-", 7), tok(api.TokAmp, "&", 7)
	for _, c := range []struct {
		l    []api.Token
		want string
	}{
		{nil, ""},
		{[]api.Token{}, ""},
		{[]api.Token{prin}, "A"},
		{[]api.Token{dot}, "."},
		{[]api.Token{prin, dot, name}, "A.r"},
		{[]api.Token{prin, dot}, "A."},
		{[]api.Token{dot, name}, ".r"},
		{[]api.Token{prin, name}, "A r"},
		{[]api.Token{dot, dot}, ".."},
		{[]api.Token{arrow, arrow, amp, amp}, "<- <- & &"},
		{[]api.Token{arrow, dot, amp}, "<-.&"},
		{[]api.Token{prin, dot, name, arrow, prin, dot, name, amp, prin, dot, name}, "A.r <- A.r & A.r"},
		{[]api.Token{prin, dot, name, arrow, prin, dot, name, dot, name}, "A.r <- A.r.r"},
		{[]api.Token{tok(api.TokName, "can", 1), prin, dot, name, tok(api.TokName, "be", 1), tok(api.TokName, "empty", 1)}, "can A.r be empty"},
	} {
		before := slices.Clone(c.l)
		if got := scan.Print(c.l...); got != c.want {
			t.Errorf("%v: %q, not %q", c.l, got, c.want)
		}
		if !slices.Equal(before, c.l) {
			t.Errorf("%v is changed", before)
		}
	}
}

func TestP2_3Same(t *testing.T) {
	a := []api.Token{tok(api.TokPrin, "A", 1), tok(api.TokDot, ".", 2), tok(api.TokName, "r", 3)}
	moved := []api.Token{tok(api.TokPrin, "A", 9), tok(api.TokDot, ".", 9), tok(api.TokName, "r", -1)}
	if !scan.Same(a, a) || !scan.Same(a, moved) || !scan.Same(moved, a) {
		t.Error("the same, elsewhere")
	}
	if !scan.Same(nil, nil) || !scan.Same(nil, []api.Token{}) || !scan.Same([]api.Token{}, nil) {
		t.Error("none and none")
	}
	if scan.Same(a, a[:2]) || scan.Same(a[:2], a) || scan.Same(a, nil) || scan.Same(nil, a) || scan.Same(a, a[1:]) {
		t.Error("another number of tokens")
	}
	for i := range a {
		kind, text := slices.Clone(a), slices.Clone(a)
		kind[i].Kind = api.TokAmp
		text[i].Text += "x"
		if scan.Same(a, kind) || scan.Same(kind, a) || scan.Same(a, text) || scan.Same(text, a) {
			t.Error("another token at", i)
		}
	}
	if scan.Same(a, []api.Token{a[1], a[0], a[2]}) {
		t.Error("another order")
	}
	if scan.Same([]api.Token{tok(api.TokPrin, "A", 1)}, []api.Token{tok(api.TokName, "A", 1)}) {
		t.Error("another kind of one text")
	}
	if scan.Same([]api.Token{tok(api.TokPrin, "A", 1)}, []api.Token{tok(api.TokPrin, "a", 1)}) {
		t.Error("another text of one kind")
	}
}

// rows calls see with all rows of at most n of the parts, each row put together as one text.
func rows(n int, see func(s string), parts ...string) {
	var more func(s string, n int)
	more = func(s string, n int) {
		see(s)
		if n == 0 {
			return
		}
		for _, p := range parts {
			more(s+p, n-1)
		}
	}
	more("", n)
}

func TestP2_4Printed(t *testing.T) {
	seen := 0
	rows(5, func(line string) {
		l, _, why := scan.Tokens(line)
		if why != api.OK {
			return
		}
		seen++
		printed := scan.Print(l...)
		again, at, why := scan.Tokens(printed)
		if why != api.OK || at != 0 || !scan.Same(l, again) {
			t.Errorf("%q is printed as %q: %v, %d, %d", line, printed, again, at, why)
		}
		if scan.Print(again...) != printed {
			t.Errorf("%q is printed as %q in the end", line, scan.Print(again...))
		}
	}, "A", "r1", ".", "<-", "&", " ", "#")
	if seen < 10000 {
		t.Error("but few lines have tokens:", seen)
	}
	long := strings.Repeat("A.r<-", api.MaxLine/5)
	if l, _, why := scan.Tokens(long); why != api.OK || len(scan.Print(l...)) <= api.MaxLine {
		t.Error("a line that is printed longer:", why)
	}
}

func TestP2_5Lines(t *testing.T) {
	rows(6, func(text string) {
		var b strings.Builder
		for _, line := range scan.Lines(text) {
			if strings.Contains(line, "\n") {
				t.Errorf("%q: a line end within %q", text, line)
			}
			b.WriteString(line + "\n")
		}
		want := text
		if text != "" && !strings.HasSuffix(text, "\n") {
			want += "\n"
		}
		if b.String() != want {
			t.Errorf("%q comes back as %q", text, b.String())
		}
	}, "\n", "A", " ", "\r", "#")
}
