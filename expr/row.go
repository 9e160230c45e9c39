package expr

import "math"

// last fills a row from the front, with what each step says by those ahead of it, and is what the last one says, of a formula that is right.
func last[T any](l []Step, says func(s Step, row []T) T) T {
	row := make([]T, len(l))
	for i := range len(l) {
		row[i] = says(l[i], row[:i])
	}
	return row[len(l)-1]
}

// truths is what a formula says at 64 bits at once, each by one bit of the words, where lit is what a variable is there.
func truths(l []Step, lit func(v int) uint64) uint64 {
	return last(l, func(s Step, row []uint64) uint64 {
		switch s.Op {
		case Lit:
			return lit(s.A)
		case Not:
			return ^row[s.A]
		case And:
			return row[s.A] & row[s.B]
		case Or:
			return row[s.A] | row[s.B]
		case Xor:
			return row[s.A] ^ row[s.B]
		case True:
			return math.MaxUint64
		}
		return 0
	})
}

// column is what the variable v is at the 64 bits from those on, which are a multiple of 64: the first six variables change among them, the same way each time, all others don't.
func column(from uint64, v int) uint64 {
	first := [...]uint64{
		0xaaaaaaaaaaaaaaaa,
		0xcccccccccccccccc,
		0xf0f0f0f0f0f0f0f0,
		0xff00ff00ff00ff00,
		0xffff0000ffff0000,
		0xffffffff00000000,
	}
	switch {
	case v < len(first):
		return first[v]
	case from>>v&1 == 1:
		return math.MaxUint64
	}
	return 0
}
