package node

import "crupper/api"

// How many places there are at first, a power of two as ever, and what stands in one that is open: falsity needs none.
const (
	fewest = 16
	open   = falsity
)

// find is where the node of these parts is, or the open place where it is to come.
func (t *Table) find(parts api.Node) int {
	last := len(t.places) - 1
	place := int(mixed(parts) & uint64(last))
seeking:
	for {
		switch n := t.places[place]; {
		case n == open, t.nodes[n-first] == parts:
			break seeking
		}
		place = (place + 1) & last
	}
	return place
}

// mixed is a number on which all of the parts tell: nodes that are much alike are to have places far apart.
func mixed(parts api.Node) uint64 {
	var h uint64
	for _, n := range [...]int{parts.Var, parts.Lo, parts.Hi} {
		h = (h ^ uint64(n)) * 0x9e3779b97f4a7c15 // odd, so that no two products are the same
		h ^= h >> 32                             // a product's low bits hang on low ones alone
	}
	return h
}

// add is the number of a new node of these parts, that comes to that place.
func (t *Table) add(parts api.Node, place int) int {
	n := first + len(t.nodes)
	t.nodes = append(t.nodes, parts)
	t.places[place] = n
	if 2*len(t.nodes) > len(t.places) {
		t.grow()
	}
	return n
}

// grow makes twice as many places, so that one is open always, and near.
func (t *Table) grow() {
	t.places = make([]int, 2*len(t.places))
	for i, parts := range t.nodes {
		t.places[t.find(parts)] = first + i
	}
}
