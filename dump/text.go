package dump

import (
	"strconv"
	"strings"

	"crupper/api"
	"crupper/ite"
)

// printer puts lines together, each of which but the first and the last one is a node's.
type printer struct {
	d       *ite.BDD
	numbers map[int]int // in the text, by those in d
	text    strings.Builder
}

// line adds a line of a beginning, if there is one, and numbers.
func (p *printer) line(begin string, l ...int) {
	p.text.WriteString(begin)
	for i, n := range l {
		if i > 0 || begin != "" {
			p.text.WriteByte(' ')
		}
		p.text.WriteString(strconv.Itoa(n))
	}
	p.text.WriteByte('\n')
}

// number is the number of d's diagram n; that gets one, and a line, behind those that it goes on with, if it has none.
func (p *printer) number(n int) int {
	if _, was := p.numbers[n]; !was {
		parts, _ := p.d.Made(n)
		lo := p.number(parts.Lo)
		hi := p.number(parts.Hi)
		p.line("", parts.Var, lo, hi)
		p.numbers[n] = len(p.numbers)
	}
	return p.numbers[n]
}

// read is the diagrams of a text, in a BDD of their own, of so many variables; it throws, if it isn't just what is printed of these.
func read(vars int, text string) (*ite.BDD, []int) {
	d := ite.New(vars, api.MaxBudget)
	nodes := []int{falsity, truth} // of d, by their numbers in the text
	node := func(word string) int {
		n := number(word)
		demand(0 <= n && n < len(nodes))
		return nodes[n]
	}
	var l []int
	for line := range strings.Lines(text) {
		switch words := strings.Fields(line); {
		case len(words) > 0 && words[0] == "=":
			for _, word := range words[1:] {
				l = append(l, node(word))
			}
		case len(words) == 3:
			nodes = append(nodes, d.Make(number(words[0]), node(words[1]), node(words[2])))
		}
	}
	demand(Print(d, l...) == text) // whatever was passed over above shows there
	return d, l
}

// number is that of a word; it throws, if that is none.
func number(word string) int {
	n, err := strconv.Atoi(word)
	demand(err == nil)
	return n
}
