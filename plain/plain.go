// Package plain is for the layers' tests alone: it draws what they are asked about, and says by the document's words, one by one, what is so then.
package plain

import (
	"slices"
	"strings"

	"crupper/api"
)

// Dice draws numbers, the same ones each time.
type Dice uint64

// Below is a number from 0 on, below n.
func (d *Dice) Below(n int) int {
	*d = *d*6364136223846793005 + 1442695040888963407
	return int(uint64(*d)>>33) % n
}

// Role is the one of that owner and name.
func Role(owner, name string) api.Role { return api.Role{Owner: owner, Name: name} }

// Roles are those of a text, in which blanks stand between them.
func Roles(text string) []api.Role {
	var l []api.Role
	for _, word := range strings.Fields(text) {
		owner, name, _ := strings.Cut(word, ".")
		l = append(l, Role(owner, name))
	}
	return l
}

// Member is the statement that who is in the head.
func Member(head api.Role, who string) api.Stmt {
	return api.Stmt{Kind: api.Member, Head: head, Who: who}
}

// Incl is the statement that all in a are in the head.
func Incl(head, a api.Role) api.Stmt { return api.Stmt{Kind: api.Incl, Head: head, A: a} }

// Link is the statement that all in the roles by the name via of all in a are in the head.
func Link(head, a api.Role, via string) api.Stmt {
	return api.Stmt{Kind: api.Link, Head: head, A: a, Via: via}
}

// Both is the statement that all in a and in b are in the head, as it is right: in whichever order these come.
func Both(head, a, b api.Role) api.Stmt {
	if b.Owner < a.Owner || b.Owner == a.Owner && b.Name < a.Name {
		a, b = b, a
	}
	return api.Stmt{Kind: api.Both, Head: head, A: a, B: b}
}

// Stmt draws a statement that is right, of these principals and names.
func (d *Dice) Stmt(prins, links []string) api.Stmt {
	role := func() api.Role { return Role(prins[d.Below(len(prins))], links[d.Below(len(links))]) }
	switch d.Below(5) {
	case 0, 1:
		return Member(role(), prins[d.Below(len(prins))])
	case 2:
		return Incl(role(), role())
	case 3:
		return Link(role(), role(), links[d.Below(len(links))])
	}
	return Both(role(), role(), role())
}

// Stmts draws n statements: some may come twice.
func (d *Dice) Stmts(n int, prins, links []string) []api.Stmt {
	var l []api.Stmt
	for range n {
		l = append(l, d.Stmt(prins, links))
	}
	return l
}

// In is who is in which role.
type In map[api.Role]map[string]struct{}

// Least takes the statements one by one, again and again, till none brings anybody.
func Least(l []api.Stmt) In {
	m := In{}
	for grown := true; grown; {
		grown = false
		for _, s := range l {
			for _, who := range m.brought(s) {
				grown = m.put(s.Head, who) || grown
			}
		}
	}
	return m
}

// put puts one into a role: is that new?
func (m In) put(r api.Role, who string) bool {
	if m.Has(r, who) {
		return false
	}
	if m[r] == nil {
		m[r] = map[string]struct{}{}
	}
	m[r][who] = struct{}{}
	return true
}

// brought are those whom the statement asks for, as matters are.
func (m In) brought(s api.Stmt) []string {
	switch s.Kind {
	case api.Member:
		return []string{s.Who}
	case api.Incl:
		return m.Of(s.A)
	case api.Both:
		return slices.DeleteFunc(m.Of(s.A), func(who string) bool { return !m.Has(s.B, who) })
	case api.Link:
		var l []string
		for _, mid := range m.Of(s.A) {
			l = append(l, m.Of(Role(mid, s.Via))...)
		}
		return l
	}
	return nil
}

// Has: is that one in the role?
func (m In) Has(r api.Role, who string) bool {
	_, ok := m[r][who]
	return ok
}

// Of is all in the role, rising.
func (m In) Of(r api.Role) []string {
	var l []string
	for who := range m[r] {
		l = append(l, who)
	}
	slices.Sort(l)
	return l
}
