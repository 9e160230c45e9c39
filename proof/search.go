package proof

import "crupper/api"

// watch is a rule, by its place, that may bring more when somebody comes into a role: of a link either the role that it links (no principal is chosen yet, viaAny), or the one of a principal in that.
type watch struct{ rule, mid int }

// viaAny stands in a watch for no principal.
const viaAny = -1

// search is the looking for all facts.
type search struct {
	ground
	known   map[fact]api.Step // each with a step that stands on facts alone that were known before it
	queue   []fact            // known, but what they bring isn't reckoned yet
	watches map[int][]watch   // by role
}

// search finds all facts, and of each one a step.
func (g ground) search() map[fact]api.Step {
	w := &search{ground: g, known: map[fact]api.Step{}, watches: map[int][]watch{}}
	for at := range g.rules {
		if r, ok := g.rule(at); ok {
			w.begin(at, r)
		}
	}
	for len(w.queue) > 0 {
		first := w.queue[0]
		w.queue = w.queue[1:]
		w.follow(first)
	}
	return w.known
}

// begin takes in a rule that is right, before any fact is followed.
func (w *search) begin(at int, r api.Rule) {
	if r.Kind == api.Member {
		w.put(api.Step{Rule: at, Role: r.Head, Who: r.Who})
		return
	}
	w.watch(r.A, watch{at, viaAny})
	if r.Kind == api.Both && r.B != r.A {
		w.watch(r.B, watch{at, viaAny})
	}
}

// watch lets x be asked for each one who is followed into the role from now on.
func (w *search) watch(role int, x watch) { w.watches[role] = append(w.watches[role], x) }

// put makes a fact known by the step, if it wasn't: it is to be followed once.
func (w *search) put(s api.Step) {
	f := fact{s.Role, s.Who}
	if !w.knows(f) {
		w.known[f] = s
		w.queue = append(w.queue, f)
	}
}

func (w *search) knows(f fact) bool {
	_, ok := w.known[f]
	return ok
}

// follow puts in what the rules that watch a role bring, as that one is in it.
func (w *search) follow(f fact) {
	for _, x := range w.watches[f.role] {
		r := w.rules[x.rule]
		s := api.Step{Rule: x.rule, Role: r.Head, Who: f.who}
		switch {
		case r.Kind == api.Link && x.mid == viaAny:
			w.link(x.rule, f.who)
		case r.Kind == api.Link:
			s.Mid = x.mid
			w.put(s)
		case r.Kind == api.Incl, w.knows(fact{r.A, f.who}) && w.knows(fact{r.B, f.who}):
			w.put(s)
		}
	}
}

// link puts in whom a link brings by way of that principal, and watches who comes: some were followed long ago.
func (w *search) link(at, mid int) {
	r := w.rules[at]
	role := mid*w.links + r.Via
	w.watch(role, watch{at, mid})
	for who := range w.prins {
		if w.knows(fact{role, who}) {
			w.put(api.Step{Rule: at, Role: r.Head, Who: who, Mid: mid})
		}
	}
}
