package plain

import (
	"slices"
	"strings"

	"crupper/api"
	"crupper/policy"
	"crupper/syn"
)

// Policy is the policy of that text, whose lines are told apart by semicolons: a test that has another text is wrong itself.
func Policy(text string) api.Policy {
	p, f := policy.Parse(strings.ReplaceAll(text, ";", "\n"))
	if f.Why != api.OK {
		panic("no policy: " + text)
	}
	return p
}

// Policy draws one that is right, about roles of these principals and names: of some, queries alone name others.
func (d *Dice) Policy(prins, links []string) api.Policy {
	p := api.Policy{Stmts: d.Stmts(d.Below(10), prins, links)}
	for _, owner := range prins {
		for _, name := range links {
			if d.Below(3) > 0 {
				p.Grow = append(p.Grow, Role(owner, name))
			}
			if d.Below(2) > 0 {
				p.Shrink = append(p.Shrink, Role(owner, name))
			}
		}
	}
	if d.Below(3) == 0 {
		p.Asks = []api.Query{{Kind: api.AskHas, A: Role("Q", "q"), Who: []string{"A", "Asked"}}}
	}
	return policy.Normal(p)
}

// Reached draws a state that p reaches: with principals and names, too, that p doesn't name.
func (d *Dice) Reached(p api.Policy) []api.Stmt {
	var l []api.Stmt
	for _, s := range p.Stmts {
		if slices.Contains(p.Shrink, s.Head) || d.Below(4) > 0 {
			l = append(l, s)
		}
	}
	prins, links := append(policy.Prins(p), "X1", "X2", "Y", "Z"), append(policy.Names(p), "x")
	for _, s := range d.Stmts(d.Below(30), prins, links) {
		if !slices.Contains(p.Grow, s.Head) {
			l = append(l, s)
		}
	}
	return syn.Sort(l...)
}
