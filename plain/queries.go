package plain

import (
	"slices"

	"crupper/api"
	"crupper/policy"
	"crupper/query"
	"crupper/syn"
)

// Ask is the query of that line: a test that has another line is wrong itself.
func Ask(line string) api.Query {
	q, _, why := query.Parse(line)
	if why != api.OK {
		panic("no query: " + line)
	}
	return q
}

// Query draws one that is right, of any kind, about roles of these principals and names.
func (d *Dice) Query(prins, links []string) api.Query {
	role := func() api.Role { return Role(prins[d.Below(len(prins))], links[d.Below(len(links))]) }
	q := api.Query{Kind: api.AskHas + d.Below(api.AskIn), A: role()}
	switch q.Kind {
	case api.AskHas, api.AskMay, api.AskWithin:
		for _, who := range prins {
			if d.Below(3) == 0 {
				q.Who = append(q.Who, who)
			}
		}
		if len(q.Who) == 0 && q.Kind != api.AskWithin {
			q.Who = []string{prins[d.Below(len(prins))]}
		}
		slices.Sort(q.Who)
	case api.AskApart, api.AskIn:
		q.B = role()
	}
	return q
}

// Satisfied counts who is in A, or in B, and shouldn't be, or should be, and isn't: is that nobody? Of a kind that is none nothing is so.
func Satisfied(q api.Query, a, b []string) bool {
	bad := 0
	switch q.Kind {
	case api.AskHas, api.AskMay:
		for _, who := range q.Who {
			if !slices.Contains(a, who) {
				bad++
			}
		}
	case api.AskWithin, api.AskApart, api.AskEmpty, api.AskIn:
		for _, who := range a {
			switch {
			case q.Kind == api.AskEmpty,
				q.Kind == api.AskWithin && !slices.Contains(q.Who, who),
				q.Kind == api.AskApart && slices.Contains(b, who),
				q.Kind == api.AskIn && !slices.Contains(b, who):
				bad++
			}
		}
	default:
		bad++
	}
	return bad == 0
}

// IsSo: is the query satisfied where these statements, and none else, hold?
func IsSo(l []api.Stmt, q api.Query) bool {
	m := Least(l)
	return Satisfied(q, m.Of(q.A), m.Of(q.B))
}

// Kept is the least state that p reaches: its statements about roles that may not shrink.
func Kept(p api.Policy) []api.Stmt {
	return slices.DeleteFunc(slices.Clone(p.Stmts), func(s api.Stmt) bool { return !slices.Contains(p.Shrink, s.Head) })
}

// Greatest is p's statements, and everybody, that fresh one among them, in each role that may grow: by layer 3's order.
func Greatest(p api.Policy, fresh string) []api.Stmt {
	l, prins := slices.Clone(p.Stmts), append(policy.Prins(p), fresh)
	for _, owner := range prins {
		for _, name := range policy.Names(p) {
			for _, who := range prins {
				if !slices.Contains(p.Grow, Role(owner, name)) {
					l = append(l, Member(Role(owner, name), who))
				}
			}
		}
	}
	return syn.Sort(l...)
}
