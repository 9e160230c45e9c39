package plain

import "math/bits"

// Row tells where a function of so many truths is true: a 1 in the place of the bits, else a 0.
func Row(vars int, is func(bits int) bool) string {
	l := make([]byte, 1<<vars)
	for bits := range l {
		l[bits] = '0'
		if is(bits) {
			l[bits] = '1'
		}
	}
	return string(l)
}

// Row draws a function of so many truths: of some of them, true at few bits, or at many.
func (d *Dice) Row(vars int) string {
	hangs, often := d.Below(1<<vars)|d.Below(1<<vars), 1+d.Below(9)
	l := make([]bool, 1<<vars)
	for bits := range l {
		l[bits] = d.Below(10) < often
	}
	return Row(vars, func(bits int) bool { return l[bits&hangs] })
}

// Diagram is that of a row, of whatever makes nodes of a variable, and of the two that it goes on with.
func Diagram(row string, node func(v, lo, hi int) int) int {
	var of func(v int, row string) int
	of = func(v int, row string) int {
		switch row {
		case "0":
			return 0
		case "1":
			return 1
		}
		var halves [2][]byte
		for bits := range len(row) {
			halves[bits%2] = append(halves[bits%2], row[bits])
		}
		return node(v, of(v+1, string(halves[0])), of(v+1, string(halves[1])))
	}
	return of(0, row)
}

// Vars are how many truths a row is of.
func Vars(row string) int { return bits.Len(uint(len(row))) - 1 }

// With are the bits, where the variable is so.
func With(bits, v int, so bool) int {
	if so {
		return bits | 1<<v
	}
	return bits &^ (1 << v)
}
