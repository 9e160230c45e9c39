package live

import (
	"cmp"
	"slices"

	"crupper/api"
	"crupper/sem"
	"crupper/set"
)

// facts are who is in which role by some rules, and where these look.
type facts struct {
	prins, links int
	in           *set.Family        // of each role the set of its principals
	looking      map[int][]api.Rule // by role: the rules that may bring more when somebody comes into it
	linking      map[int][]api.Rule // by name: the links that may bring more when somebody comes into a role by that name
}

// reckon has all that the rules bring, at once.
func reckon(prins, links int, rules []api.Rule) facts {
	f := facts{
		prins:   prins,
		links:   links,
		in:      sem.Eval(prins, links, rules...).Copy(),
		looking: map[int][]api.Rule{},
		linking: map[int][]api.Rule{},
	}
	for _, r := range rules {
		f.look(r)
	}
	return f
}

// look lets the rule be asked for each one who comes from now on.
func (f facts) look(r api.Rule) {
	if r.Kind == api.Member {
		return
	}
	f.looking[r.A] = append(f.looking[r.A], r)
	switch r.Kind {
	case api.Link:
		f.linking[r.Via] = append(f.linking[r.Via], r)
	case api.Both:
		f.looking[r.B] = append(f.looking[r.B], r)
	}
}

// take follows a new rule, and it alone: the pairs that come, in order.
func (f facts) take(r api.Rule) [][2]int {
	var came [][2]int
	put := func(role, who int) {
		if f.in.Add(role, who) {
			came = append(came, [2]int{role, who})
		}
	}
	if r.Kind == api.Member {
		put(r.Head, r.Who)
	} else {
		for _, who := range f.in.List(r.A) {
			f.bring(r, who, put)
		}
	}
	for i := 0; i < len(came); i++ { // more come behind as these are followed
		f.follow(came[i], put)
	}
	slices.SortFunc(came, func(a, b [2]int) int { return cmp.Or(cmp.Compare(a[0], b[0]), cmp.Compare(a[1], b[1])) })
	return came
}

// follow puts in whom the rules bring that look at a role, or link it, as somebody came into it.
func (f facts) follow(pair [2]int, put func(role, who int)) {
	role, who := pair[0], pair[1]
	for _, r := range f.looking[role] {
		f.bring(r, who, put)
	}
	owner, name := role/f.links, role%f.links
	for _, r := range f.linking[name] {
		if f.in.Has(r.A, owner) {
			put(r.Head, who)
		}
	}
}

// bring puts in whom the rule brings, as that one is in a role that it looks at.
func (f facts) bring(r api.Rule, who int, put func(role, who int)) {
	switch r.Kind {
	case api.Incl:
		put(r.Head, who)
	case api.Link:
		for _, linked := range f.in.List(who*f.links + r.Via) {
			put(r.Head, linked)
		}
	case api.Both:
		if f.in.Has(r.A, who) && f.in.Has(r.B, who) {
			put(r.Head, who)
		}
	}
}

// without are the pairs that others haven't, in order.
func (f facts) without(others facts) [][2]int {
	var l [][2]int
	for role := range f.in.Rows() {
		for _, who := range f.in.List(role) {
			if !others.in.Has(role, who) {
				l = append(l, [2]int{role, who})
			}
		}
	}
	return l
}
