// Package names is layer 1: see shared/doc/01-names.md.
package names

import (
	"slices"
	"sort"
	"strconv"

	"crupper/api"
)

// maxFresh is how many fresh texts are told at most.
const maxFresh = 1000

// IsPrin: P1.1.
func IsPrin(s string) bool { return isNamed(s, isCapital) }

// IsName: P1.1.
func IsName(s string) bool { return isNamed(s, isSmall) }

// isNamed goes by bytes, as MaxName does: a letter is one of ASCII's.
func isNamed(s string, begins func(c byte) bool) bool {
	if s == "" || len(s) > api.MaxName || !begins(s[0]) {
		return false
	}
	for i := range len(s) {
		if !isCapital(s[i]) && !isSmall(s[i]) && !isDigit(s[i]) {
			return false
		}
	}
	return true
}

func isCapital(c byte) bool { return 'A' <= c && c <= 'Z' }

func isSmall(c byte) bool { return 'a' <= c && c <= 'z' }

func isDigit(c byte) bool { return '0' <= c && c <= '9' }

// Table has texts, each once.
type Table struct {
	texts []string // rising by their bytes, so that they can be looked for by halves
}

// New: P1.2.
func New(l ...string) *Table {
	texts := slices.Clone(l)
	slices.Sort(texts)
	return &Table{texts: slices.Compact(texts)}
}

// kept is what the table has: a nil one has nothing.
func (t *Table) kept() []string {
	if t == nil {
		return nil
	}
	return t.texts
}

// Len: P1.2.
func (t *Table) Len() int { return len(t.kept()) }

// At: P1.2.
func (t *Table) At(i int) string {
	if i < 0 || i >= t.Len() {
		return ""
	}
	return t.texts[i]
}

// Find: P1.2.
func (t *Table) Find(s string) int {
	l := t.kept()
	i := sort.Search(len(l), func(i int) bool { return l[i] >= s })
	if i == len(l) || l[i] != s {
		return -1
	}
	return i
}

// All: P1.2.
func (t *Table) All() []string { return slices.Clone(t.kept()) }

// With: P1.2.
func (t *Table) With(l ...string) *Table { return New(slices.Concat(t.kept(), l)...) }

// Fresh: P1.2.
func (t *Table) Fresh(n int) []string {
	n = min(n, maxFresh)
	var l []string
	for number := 1; len(l) < n; number++ {
		s := "X" + strconv.Itoa(number)
		if t.Find(s) < 0 {
			l = append(l, s)
		}
	}
	return l
}
