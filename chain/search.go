package chain

import (
	"slices"

	"crupper/api"
	"crupper/syn"
)

// item is what waits in the queue: a role, or somebody, that is asked, or one who was found in a role.
type item struct {
	role  api.Role
	who   string
	found bool
}

// in is that one was found in a role.
func in(r api.Role, who string) item { return item{role: r, who: who, found: true} }

// search is the looking for who is in which role, from what is asked on.
type search struct {
	seen    map[item]struct{} // what waits, or was taken
	queue   []item
	looking map[api.Role][]api.Stmt // by role: the statements that are asked for each one in it
	members map[api.Role][]string   // by role: who was found in it, and taken
	link    func(s api.Stmt, mid string)
	found   func(i item)
}

func newSearch() *search {
	return &search{
		seen:    map[item]struct{}{},
		looking: map[api.Role][]api.Stmt{},
		members: map[api.Role][]string{},
		found:   func(item) {},
	}
}

// has: does this wait, or was it taken?
func (w *search) has(i item) bool {
	_, ok := w.seen[i]
	return ok
}

// put lets it wait, once.
func (w *search) put(i item) {
	if !w.has(i) {
		w.seen[i] = struct{}{}
		w.queue = append(w.queue, i)
	}
}

// run takes the first item, and what comes of it, till nothing waits.
func (w *search) run(first item, asked func(item)) {
	w.put(first)
	for len(w.queue) > 0 {
		i := w.queue[0]
		w.queue = w.queue[1:]
		if i.found {
			w.follow(i)
		} else {
			asked(i)
		}
	}
}

// follow takes one who was found in a role.
func (w *search) follow(i item) {
	w.members[i.role] = append(w.members[i.role], i.who)
	for _, s := range w.looking[i.role] {
		w.bring(s, i.who)
	}
	w.found(i)
}

// look lets s be asked for each one in the role: those who were taken already don't come again.
func (w *search) look(r api.Role, s api.Stmt) {
	w.looking[r] = append(w.looking[r], s)
	for _, who := range w.members[r] {
		w.bring(s, who)
	}
}

// bring puts in what s says of one who is in a role that it looks at.
func (w *search) bring(s api.Stmt, who string) {
	switch s.Kind {
	case api.Incl:
		w.put(in(s.Head, who))
	case api.Link:
		w.link(s, who)
	case api.Both:
		if w.has(in(s.A, who)) && w.has(in(s.B, who)) {
			w.put(in(s.Head, who))
		}
	}
}

// lookedAt are the roles beside its head that a statement names, each once.
func lookedAt(s api.Stmt) []api.Role { return slices.Compact(syn.Roles(s)[1:]) }

// index has the statements by what is told of them.
func index[K comparable](l []api.Stmt, told func(api.Stmt) []K) map[K][]api.Stmt {
	m := map[K][]api.Stmt{}
	for _, s := range l {
		for _, k := range told(s) {
			m[k] = append(m[k], s)
		}
	}
	return m
}

// only is x, of a statement of that kind.
func only(s api.Stmt, kind int, x string) []string {
	if s.Kind != kind {
		return nil
	}
	return []string{x}
}
