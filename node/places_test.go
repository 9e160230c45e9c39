package node

import (
	"slices"
	"testing"

	"crupper/api"
)

// full makes all diagrams of so many variables, and hands the table to each after each new node.
func full(vars int, each func(t *Table)) *Table {
	got := New(vars, api.MaxBudget)
	l := []int{falsity, truth}
	for v := vars - 1; v >= 0; v-- {
		below := slices.Clone(l)
		for _, lo := range below {
			for _, hi := range below {
				if n, _ := got.Make(v, lo, hi); n == len(l) {
					l = append(l, n)
					each(got)
				}
			}
		}
	}
	return got
}

// TestPlaces: there are twice as many when more than half are taken, and not sooner; each node is found in its own.
func TestPlaces(t *testing.T) {
	got := full(3, func(x *Table) {
		if 2*len(x.nodes) > len(x.places) || len(x.places) > fewest && len(x.places) >= 4*len(x.nodes) {
			t.Fatalf("%d nodes in %d places", len(x.nodes), len(x.places))
		}
	})
	taken := 0
	for _, n := range got.places {
		if n != open {
			taken++
		}
	}
	if taken != len(got.nodes) || taken != 254 {
		t.Errorf("%d places are taken by %d nodes", taken, len(got.nodes))
	}
	for i, parts := range got.nodes {
		if n := got.places[got.find(parts)]; n != first+i {
			t.Errorf("%v is found as %d, not %d", parts, n, first+i)
		}
	}
}

// TestPlacesNear: nodes are found near to where their parts lead, though they are much alike.
func TestPlacesNear(t *testing.T) {
	got := full(4, func(*Table) {})
	steps, last := 0, len(got.places)-1
	for _, parts := range got.nodes {
		home := int(mixed(parts) & uint64(last))
		steps += (got.find(parts) - home) & last
	}
	if len(got.nodes) != 1<<16-2 || steps > len(got.nodes) {
		t.Errorf("%d steps to %d nodes", steps, len(got.nodes))
	}
}
