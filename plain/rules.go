package plain

import (
	"cmp"
	"slices"

	"crupper/api"
)

// MemberRule is Member, by numbers.
func MemberRule(head, who int) api.Rule { return api.Rule{Kind: api.Member, Head: head, Who: who} }

// InclRule is Incl, by numbers.
func InclRule(head, a int) api.Rule { return api.Rule{Kind: api.Incl, Head: head, A: a} }

// LinkRule is Link, by numbers.
func LinkRule(head, a, via int) api.Rule {
	return api.Rule{Kind: api.Link, Head: head, A: a, Via: via}
}

// BothRule is Both, by numbers, as they come.
func BothRule(head, a, b int) api.Rule { return api.Rule{Kind: api.Both, Head: head, A: a, B: b} }

// Rule draws a rule that is right, of so many principals and names; there is a role at least.
func (d *Dice) Rule(prins, links int) api.Rule {
	roles := prins * links
	head, a := d.Below(roles), d.Below(roles)
	switch d.Below(5) {
	case 0, 1:
		return MemberRule(head, d.Below(prins))
	case 2:
		return InclRule(head, a)
	case 3:
		return LinkRule(head, a, d.Below(links))
	}
	return BothRule(head, a, d.Below(roles))
}

// AllRules are all rules that are right, of so many principals and names.
func AllRules(prins, links int) []api.Rule {
	var l []api.Rule
	for head := range prins * links {
		for who := range prins {
			l = append(l, MemberRule(head, who))
		}
		for a := range prins * links {
			l = append(l, InclRule(head, a))
			for via := range links {
				l = append(l, LinkRule(head, a, via))
			}
			for b := range prins * links {
				l = append(l, BothRule(head, a, b))
			}
		}
	}
	return l
}

// Pairs is who is in which role: the role, then who.
type Pairs map[[2]int]struct{}

// LeastPairs takes the rules, that are right, one by one, again and again, till none brings anybody.
func LeastPairs(prins, links int, rules []api.Rule) Pairs {
	m := Pairs{}
	for grown := true; grown; {
		grown = false
		for _, r := range rules {
			for who := range prins {
				if !m.Has(r.Head, who) && m.asks(prins, links, r, who) {
					m[[2]int{r.Head, who}] = struct{}{}
					grown = true
				}
			}
		}
	}
	return m
}

// asks: does the rule ask for that one in its head, as matters are?
func (m Pairs) asks(prins, links int, r api.Rule, who int) bool {
	switch r.Kind {
	case api.Member:
		return r.Who == who
	case api.Incl:
		return m.Has(r.A, who)
	case api.Both:
		return m.Has(r.A, who) && m.Has(r.B, who)
	}
	for mid := range prins {
		if m.Has(r.A, mid) && m.Has(mid*links+r.Via, who) {
			return true
		}
	}
	return false
}

// Has: is that one in the role?
func (m Pairs) Has(role, who int) bool {
	_, ok := m[[2]int{role, who}]
	return ok
}

// Without are the pairs that the other hasn't, by the role, then by who.
func (m Pairs) Without(other Pairs) [][2]int {
	var l [][2]int
	for x := range m {
		if !other.Has(x[0], x[1]) {
			l = append(l, x)
		}
	}
	slices.SortFunc(l, func(a, b [2]int) int { return cmp.Or(cmp.Compare(a[0], b[0]), cmp.Compare(a[1], b[1])) })
	return l
}
