// Package scan is layer 2: see shared/doc/02-scan.md.
package scan

import (
	"slices"
	"strings"

	"crupper/api"
	"crupper/names"
)

// Lines: P2.1.
func Lines(text string) []string {
	var l []string
	for line := range strings.Lines(text) {
		l = append(l, strings.TrimSuffix(line, "\n"))
	}
	return l
}

// Tokens: P2.2.
func Tokens(line string) ([]api.Token, int, api.Errno) {
	if len(line) > api.MaxLine {
		return nil, api.MaxLine + 1, api.ErrLong
	}
	line = uncommented(line)
	var l []api.Token
	for at := 0; at < len(line); {
		if line[at] == ' ' {
			at++
			continue
		}
		kind, size := first(line[at:])
		if size == 0 {
			return nil, at + 1, api.ErrByte
		}
		if size > api.MaxName { // of all tokens only a word can be so long
			return nil, at + 1, api.ErrLong
		}
		l = append(l, api.Token{Kind: kind, Text: line[at : at+size], Col: at + 1})
		at += size
	}
	return l, 0, api.OK
}

// first tells the kind and the bytes of the token that rest, which is not empty, begins with; 0, 0: there is none.
func first(rest string) (kind, size int) {
	kind = api.TokName
	switch c := rest[:1]; {
	case names.IsPrin(c):
		kind = api.TokPrin
		fallthrough
	case names.IsName(c):
		return kind, wordSize(rest)
	case c == ".":
		return api.TokDot, 1
	case c == "&":
		return api.TokAmp, 1
	case strings.HasPrefix(rest, "<-"):
		return api.TokArrow, 2
	}
	return 0, 0
}

// wordSize tells how many letters and digits rest begins with.
func wordSize(rest string) int {
	size := 0
	for size < len(rest) && inWord(rest[size:size+1]) {
		size++
	}
	return size
}

// inWord asks layer 1, so that what a letter is stands there alone: one letter is a name by itself.
func inWord(c string) bool {
	return names.IsPrin(c) || names.IsName(c) || "0" <= c && c <= "9"
}

// Trim: P2.1.
func Trim(line string) string { return strings.Trim(uncommented(line), " ") }

// uncommented is the line without its comment.
func uncommented(line string) string {
	line, _, _ = strings.Cut(line, "#")
	return line
}

// Print: P2.3.
func Print(l ...api.Token) string {
	var b strings.Builder
	for i, t := range l {
		if i > 0 && t.Kind != api.TokDot && l[i-1].Kind != api.TokDot {
			b.WriteByte(' ')
		}
		b.WriteString(t.Text)
	}
	return b.String()
}

// Same: P2.3.
func Same(a, b []api.Token) bool {
	return slices.EqualFunc(a, b, func(x, y api.Token) bool {
		return x.Kind == y.Kind && x.Text == y.Text
	})
}
