package cache_test

import (
	"math"
	"testing"

	"crupper/cache"
	"crupper/plain"
)

// asked is four numbers that an answer is to.
type asked [4]int

// put puts an answer to them.
func put(c *cache.Cache, q asked, answer int) { c.Put(q[0], q[1], q[2], q[3], answer) }

// get asks for it.
func get(c *cache.Cache, q asked) (int, bool) { return c.Get(q[0], q[1], q[2], q[3]) }

// gives says what is wrong, if the answer to them isn't that one.
func gives(t *testing.T, what string, c *cache.Cache, q asked, want int) {
	t.Helper()
	before := c.Hits()
	if got, ok := get(c, q); !ok || got != want {
		t.Errorf("%s: of %v is kept %d, %v, not %d", what, q, got, ok, want)
	}
	if got := c.Hits(); got != before+1 {
		t.Errorf("%s: %d answers, and %d with one more", what, before, got)
	}
}

// lacks says what is wrong, if there is an answer to them.
func lacks(t *testing.T, what string, c *cache.Cache, q asked) {
	t.Helper()
	before := c.Hits()
	if got, ok := get(c, q); ok || got != 0 {
		t.Errorf("%s: of %v is kept %d, %v", what, q, got, ok)
	}
	if got := c.Hits(); got != before {
		t.Errorf("%s: %d answers, and %d with none more", what, before, got)
	}
}

// numbers are some that are much alike, or far apart.
var numbers = []int{0, 1, 2, 3, 4, 5, 8, 16, 1 << 16, 1<<16 + 1, 1 << 31, 1 << 32, 1<<32 + 1, 1 << 62, math.MaxInt, -1, -2, math.MinInt32, math.MinInt, math.MinInt + 1}

// others are those that are but a little unlike q.
func others(q asked) []asked {
	var l []asked
	add := func(x asked) {
		if x != q {
			l = append(l, x)
		}
	}
	for i := range q {
		for _, n := range numbers {
			x := q
			x[i] = n
			add(x)
			x[i] = q[i] ^ n
			add(x)
		}
		for bit := range 64 {
			x := q
			x[i] ^= 1 << bit
			add(x)
		}
		for j := range i {
			x := q
			x[i], x[j] = x[j], x[i]
			add(x)
			x = q
			x[i], x[j] = x[i]+1, x[j]-1
			add(x)
		}
	}
	return l
}

var sizes = []struct{ asked, want int }{
	{math.MinInt, 1}, {-1, 1}, {0, 1}, {1, 1}, {2, 2}, {3, 4}, {4, 4}, {5, 8}, {7, 8}, {8, 8}, {9, 16}, {1000, 1024}, {1024, 1024}, {1025, 2048},
	{1<<15 - 1, 1 << 15}, {1 << 15, 1 << 15}, {1<<15 + 1, 1 << 16}, {1<<16 - 1, 1 << 16}, {1 << 16, 1 << 16}, {1<<16 + 1, 1 << 16}, {1 << 17, 1 << 16}, {1 << 32, 1 << 16}, {1<<32 + 1, 1 << 16}, {math.MaxInt, 1 << 16},
}

func TestP15_1Size(t *testing.T) {
	for _, c := range sizes {
		got := cache.New(c.asked)
		if got == nil || got.Size() != c.want || got.Hits() != 0 {
			t.Fatalf("of %d: %d places, %d answers, not %d", c.asked, got.Size(), got.Hits(), c.want)
		}
		lacks(t, "new", got, asked{})
		lacks(t, "new", got, asked{1, 2, 3, 4})
		put(got, asked{1, 2, 3, 4}, 9)
		gives(t, "the chapter's example", got, asked{1, 2, 3, 4}, 9)
		got.Clear()
		lacks(t, "cleared", got, asked{1, 2, 3, 4})
		if got.Size() != c.want || got.Hits() != 1 {
			t.Errorf("of %d: %d places, %d answers when it was cleared", c.asked, got.Size(), got.Hits())
		}
	}
}

func TestP15_1Nil(t *testing.T) {
	var none *cache.Cache
	for range 2 {
		none.Put(1, 2, 3, 4, 9)
		none.Put(0, 0, 0, 0, 1)
		lacks(t, "nil", none, asked{1, 2, 3, 4})
		lacks(t, "nil", none, asked{})
		if none.Size() != 0 || none.Hits() != 0 {
			t.Errorf("nil: %d places, %d answers", none.Size(), none.Hits())
		}
		none.Clear()
	}
}

// TestP15_1Last: what was put last of all is kept, whatever it is, in the place of what was there.
func TestP15_1Last(t *testing.T) {
	for _, size := range []int{1, 2, 16, 1 << 16} {
		c := cache.New(size)
		for i, a := range numbers {
			for j, b := range numbers {
				for _, q := range []asked{{a, b, 0, 0}, {0, a, b, 0}, {0, 0, a, b}, {a, b, b, a}, {b, a, a, b}, {a, a, a, b}} {
					for _, answer := range []int{i - j, 0, b, a} {
						put(c, q, answer)
						gives(t, "last", c, q, answer)
						gives(t, "last, again", c, q, answer)
					}
				}
			}
		}
	}
}

// TestP15_1Of1: of one place what was put ahead of the last goes, unless it was to the same numbers.
func TestP15_1Of1(t *testing.T) {
	c := cache.New(1)
	put(c, asked{1, 2, 3, 4}, 9)
	put(c, asked{1, 2, 3, 4}, 8)
	gives(t, "the same", c, asked{1, 2, 3, 4}, 8)
	put(c, asked{1, 2, 4, 3}, 7)
	gives(t, "another one", c, asked{1, 2, 4, 3}, 7)
	lacks(t, "ahead of it", c, asked{1, 2, 3, 4})
	c.Clear()
	lacks(t, "cleared", c, asked{1, 2, 4, 3})
	lacks(t, "cleared", c, asked{1, 2, 3, 4})
	lacks(t, "zeros that weren't put", c, asked{})
	put(c, asked{}, 0)
	gives(t, "zeros", c, asked{}, 0)
	if c.Hits() != 3 {
		t.Errorf("%d answers", c.Hits())
	}
}

// TestP15_1Apart: what one has isn't in another one.
func TestP15_1Apart(t *testing.T) {
	a, b := cache.New(4), cache.New(4)
	put(a, asked{1, 2, 3, 4}, 9)
	lacks(t, "b", b, asked{1, 2, 3, 4})
	gives(t, "a", a, asked{1, 2, 3, 4}, 9)
	put(b, asked{1, 2, 3, 4}, 8)
	a.Clear()
	gives(t, "b", b, asked{1, 2, 3, 4}, 8)
	if a.Hits() != 1 || b.Hits() != 1 {
		t.Errorf("%d and %d answers", a.Hits(), b.Hits())
	}
}

// TestP15_1Spread: of numbers much alike most have places of their own.
func TestP15_1Spread(t *testing.T) {
	c := cache.New(1 << 12)
	ways := []func(i int) asked{
		func(i int) asked { return asked{i, 0, 0, 0} },
		func(i int) asked { return asked{1, i, 0, 0} },
		func(i int) asked { return asked{1, 2, i, 0} },
		func(i int) asked { return asked{1, 2, 3, i} },
		func(i int) asked { return asked{i, i, i, i} },
		func(i int) asked { return asked{1, i, -i, 1} },
		func(i int) asked { return asked{1, i % 16, i / 16, 0} },
		func(i int) asked { return asked{i << 48, 0, 0, 0} },
		func(i int) asked { return asked{0, 0, i << 32, 0} },
		func(i int) asked { return asked{0, 0, 0, i << 55} },
	}
	for at, way := range ways {
		c.Clear()
		for i := range 256 {
			put(c, way(i), i)
		}
		kept := 0
		for i := range 256 {
			if answer, ok := get(c, way(i)); ok && answer == i {
				kept++
			}
		}
		if kept < 200 {
			t.Errorf("way %d: %d of 256 are kept", at, kept)
		}
	}
}

// TestP15_2: nothing is answered that was put for other numbers, however little these are unlike.
func TestP15_2(t *testing.T) {
	for _, size := range []int{1, 2, 64} {
		for _, q := range []asked{{}, {1, 2, 3, 4}, {4, 3, 2, 1}, {-1, -1, -1, -1}, {5, 5, 5, 5}, {math.MaxInt, math.MinInt, 0, 1}} {
			c := cache.New(size)
			put(c, q, 77)
			for _, x := range others(q) {
				lacks(t, "another one", c, x)
			}
			gives(t, "the one that was put", c, q, 77)
			for i, x := range others(q) {
				put(c, x, i)
				gives(t, "another one, that was put", c, x, i)
				if answer, ok := get(c, q); ok && answer != 77 {
					t.Fatalf("%v is told for %v, which was put for %v", answer, q, x)
				}
			}
		}
	}
}

// TestP15_2Drawn: calls as they come, held against all that was put; and P15.3: no more is kept than there are places.
func TestP15_2Drawn(t *testing.T) {
	var d plain.Dice = 15
	for range 200 {
		c := cache.New(d.Below(40))
		last, hits := map[asked]int{}, 0
		of := 2 + d.Below(5)
		for range 400 {
			q := asked{d.Below(of), d.Below(of) - 1, d.Below(of), d.Below(2)}
			switch d.Below(60) {
			case 0:
				c.Clear()
				clear(last)
			default:
				last[q] = d.Below(9) - 3
				put(c, q, last[q])
				gives(t, "last", c, q, last[q])
				hits++
			}
			ask := asked{d.Below(of), d.Below(of) - 1, d.Below(of), d.Below(2)}
			want, was := last[ask]
			answer, ok := get(c, ask)
			if ok && (!was || answer != want) || !ok && answer != 0 {
				t.Fatalf("of %v is told %d, %v, not %d, %v", ask, answer, ok, want, was)
			}
			if ok {
				hits++
			}
		}
		kept := 0
		for q, want := range last {
			if answer, ok := get(c, q); ok && answer == want {
				kept++
			}
		}
		if kept > c.Size() || c.Hits() != hits+kept {
			t.Fatalf("%d are kept in %d places, %d answers, not %d", kept, c.Size(), c.Hits(), hits+kept)
		}
	}
}

// TestP15_3: however many are put, no more than Size are kept; and none, when it was cleared.
func TestP15_3(t *testing.T) {
	for _, size := range []int{1, 2, 3, 16, 100, 1 << 10, 1 << 16, math.MaxInt} {
		c := cache.New(size)
		many := 4*c.Size() + 3
		question := func(i int) asked { return asked{i % 7, i, i / 3, -i} }
		for i := range many {
			put(c, question(i), i)
		}
		kept := 0
		for i := range many {
			answer, ok := get(c, question(i))
			if ok {
				kept++
			}
			if ok && answer != i {
				t.Fatalf("of %d: %d is told for %d", size, answer, i)
			}
		}
		if kept > c.Size() || kept < 1 || c.Hits() != kept {
			t.Errorf("of %d: %d are kept in %d places, %d answers", size, kept, c.Size(), c.Hits())
		}
		c.Clear()
		for i := range many {
			if answer, ok := get(c, question(i)); ok || answer != 0 {
				t.Fatalf("of %d: %d is told for %d when it was cleared", size, answer, i)
			}
		}
		if c.Hits() != kept {
			t.Errorf("of %d: %d answers when it was cleared, not %d", size, c.Hits(), kept)
		}
	}
}
