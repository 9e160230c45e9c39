package dump_test

import (
	"slices"
	"strings"
	"testing"

	"crupper/api"
	"crupper/dump"
	"crupper/ite"
	"crupper/plain"
)

// TestP39_3: what is printed of one is read in another one as the same, and printed the same.
func TestP39_3(t *testing.T) {
	dice := plain.Dice(393)
	for i := range 1500 {
		vars := i % 8
		a, b := ite.New(vars, api.MaxBudget), ite.New(vars, api.MaxBudget)
		rows, l := drawn(&dice, a)
		drawn(&dice, b)
		text := dump.Print(a, l...)
		got, ok := dump.Read(b, text)
		var want []int
		for _, row := range rows {
			want = append(want, plain.Diagram(row, b.Make))
		}
		if !slices.Equal(got, want) || !ok || dump.Print(b, got...) != text {
			t.Fatalf("%q: %v, %v, not %v", text, got, ok, want)
		}
		if again, ok := dump.Read(a, text); !slices.Equal(again, l) || !ok {
			t.Errorf("%q: %v, %v, not %v", text, again, ok, l)
		}
	}
}

// unread holds that a text is none, and that nothing is made of it.
func unread(t *testing.T, d *ite.BDD, text string) {
	t.Helper()
	nodes, calls := d.Len(), d.Calls()
	if l, ok := dump.Read(d, text); len(l) != 0 || ok || d.Len() != nodes || d.Calls() != calls || d.Spent() {
		t.Errorf("%q: %v, %v; %d nodes, not %d", text, l, ok, d.Len(), nodes)
	}
}

// TestP39_2Told: texts that nothing has, though some could be taken for one.
func TestP39_2Told(t *testing.T) {
	for _, text := range []string{
		"", ";", " ", "=", "= 0", "3", "3;", "3;=", "3;= 0", // an end is missing, or a line
		"3;;= 0;", ";3;= 0;", "3;= 0;;", "3;= 0; ", "3;= 0;= 0;", "3;= 0;=;", "3;3;= 0;", "= 0;3;", "= 0;", "3;2;= 0;",
		" 3;= 0;", "3 ;= 0;", "3;= 0 ;", "3;=  0;", "3; = 0;", "3;=0;", "3;= ;", "3;=\t0;", "3\r;= 0\r;", "3;= 0\x00;", "3;== 0;", "3;= =;", "3;= 0 = 0;", "3;- 0;", "3;x 0;",
		"2;= 0;", "4;= 0;", "0;= 0;", "-3;= 0;", "+3;= 0;", "03;= 0;", "3.0;= 0;", "0x3;= 0;", "3_;= 0;", "99999999999999999999;= 0;", "62;= 0;", "61;= 0;", "3 3;= 0;", "x;= 0;",
		"3;= 2;", "3;= -1;", "3;= 00;", "3;= 01;", "3;= +1;", "3;= -0;", "3;= 1x;", "3;= 99999999999999999999;", "3;= 9223372036854775807;", "3;= -9223372036854775808;", "3;= 1 2;", "3;= ,;", "3;= 1,1;",
		"3;0 0 1;= 0;", "3;0 0 1;=;", "3;0 0 1;1 0 1;= 2;", "3;0 0 1;1 0 1;= 3;", "3;1 0 1;0 0 1;= 3 2;", "3;0 0 1;= 2 3;", // nodes that nothing comes to, or in another order
		"3;0 0 1;0 0 1;= 2;", "3;0 0 1;0 0 1;= 3;", "3;0 0 1;0 0 1;= 2 3;", "3;2 0 1;2 0 1;0 2 3;= 4;", "3;2 0 1;2 0 1;1 0 2;1 0 3;0 4 5;= 6;", // nodes that are there twice
		"3;0 1 1;= 2;", "3;0 0 0;= 2;", "3;0 0 0;= 0;", "3;2 0 1;0 2 2;= 3;", "3;2 0 1;0 2 2;= 2;", // nodes whose parts are one
		"3;3 0 1;= 2;", "3;-1 0 1;= 2;", "3;0 0 2;= 2;", "3;0 2 1;= 2;", "3;0 3 1;1 0 1;= 2;", "3;0 -1 1;= 2;", "3;0 0 1;1 0 2;= 3;", "3;0 0 1;0 0 2;= 3;", "3;2 0 1;2 0 2;= 3;",
		"3;0 0 1;= 2 2 ;", "3;0 0 1 ;= 2;", "3; 0 0 1;= 2;", "3;0  0 1;= 2;", "3;0 0  1;= 2;", "3;00 0 1;= 2;", "3;0 00 1;= 2;", "3;0 0 01;= 2;", "3;0 0 1 1;= 2;", "3;0 0;= 2;", "3;0 0 x;= 2;", "3;x 0 1;= 2;", "3;0 x 1;= 2;",
		"3;2 0 1;1 0 1;0 3 2;= 4;", "3;1 0 1;2 0 1;0 3 2;= 4;", // those by Hi stand first
		"0 0 1;3;= 2;", "3;= 2;0 0 1;", "3;0 0 1;= 2", "3;0 0 1;= 2;0 0 1;", "3;0 0 1;= 2;;", "0 0 1;= 2;", "3,0 0 1,= 2,", "3;# 0 1;= 0;", "3;0 0 1;= 2;# it;",
	} {
		d := ite.New(3, 100)
		d.Lit(1)
		unread(t, d, strings.ReplaceAll(text, ";", "\n"))
	}
}

// TestP39_2Near: whatever is near to a text, by one byte: it is none, or just what is printed of its diagrams.
func TestP39_2Near(t *testing.T) {
	dice := plain.Dice(3922)
	read := 0
	for i := range 120 {
		vars := 1 + i%4
		from := ite.New(vars, api.MaxBudget)
		_, l := drawn(&dice, from)
		text := dump.Print(from, l...)
		try := func(near string) {
			d := ite.New(vars, api.MaxBudget)
			got, ok := dump.Read(d, near)
			if ok {
				read++
			}
			if ok && dump.Print(d, got...) != near || !ok && (len(got) != 0 || d.Len() != 0 || d.Calls() != 0) {
				t.Fatalf("%q: %v, %v: %d nodes, printed %q", near, got, ok, d.Len(), dump.Print(d, got...))
			}
		}
		for at := range len(text) {
			try(text[:at])
			try(text[at:])
			try(text[:at] + text[at+1:])
			for _, b := range " \n=0123-x" {
				try(text[:at] + string(b) + text[at:])
				try(text[:at] + string(b) + text[at+1:])
			}
		}
		lines := strings.SplitAfter(text, "\n")
		for at := range lines {
			try(strings.Join(slices.Insert(slices.Clone(lines), at, lines[at]), ""))
			try(strings.Join(slices.Delete(slices.Clone(lines), at, at+1), ""))
			if at > 0 {
				turned := slices.Clone(lines)
				turned[at-1], turned[at] = turned[at], turned[at-1]
				try(strings.Join(turned, ""))
			}
		}
	}
	if read < 1000 {
		t.Errorf("%d are read", read)
	}
}

// TestP39_2Spent: with a budget that doesn't last, or didn't, nothing is read; with one that does, all is.
func TestP39_2Spent(t *testing.T) {
	dice := plain.Dice(3923)
	for range 100 {
		free := ite.New(5, api.MaxBudget)
		_, l := drawn(&dice, free)
		text := dump.Print(free, l...)
		nodes := int64(dump.Lines(text) - 2)
		for budget := range nodes + 2 {
			d := ite.New(5, budget)
			got, ok := dump.Read(d, text)
			if lasts := budget >= nodes; ok != lasts || d.Spent() == lasts || !lasts && len(got) != 0 || lasts && (dump.Print(d, got...) != text || d.Len() != nodes) {
				t.Fatalf("%q: budget %d: %v, %v, spent %v", text, budget, got, ok, d.Spent())
			}
			if d.Spent() {
				for _, text := range []string{text, "5\n=\n", "5\n= 0 1\n"} {
					if got, ok := dump.Read(d, text); len(got) != 0 || ok {
						t.Errorf("spent: %q: %v, %v", text, got, ok)
					}
				}
			}
		}
	}
}

// TestP39_2Long: texts of very many lines, and numbers.
func TestP39_2Long(t *testing.T) {
	d := ite.New(2, 10)
	d.Lit(1)
	many := "2\n0 0 1\n=" + strings.Repeat(" 2 1", 50000) + "\n"
	l, ok := dump.Read(d, many)
	if !ok || len(l) != 100000 || l[0] != d.Lit(0) || l[99999] != 1 || dump.Print(d, l...) != many {
		t.Errorf("%d numbers, %v", len(l), ok)
	}
	unread(t, d, "2\n"+strings.Repeat("1 0 1\n", 100000)+"= 2\n")
	unread(t, d, strings.Repeat("\n", 100000))
	unread(t, d, "2\n= "+strings.Repeat("1", 100000)+"\n")
}
