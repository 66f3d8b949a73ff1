// Package pool makes sets of words (layer 19) and keeps those that it has made: in the rules of a grammar the same products occur again and again.
package pool

import (
	"slices"

	"repertory/wset"
)

// mostKept is how many words and products a pool keeps, which bounds its memory.
const mostKept = 1 << 20

// Set is a set of words of a pool. Sets with the same number are equal; that without words, which is in every pool, can have the number 0.
type Set struct {
	number int
	words  []string
	// whole tells whether all words have k terminals, so that products add nothing to them.
	whole bool
}

// Len is how many words a set has.
func (s Set) Len() int { return len(s.words) }

// Words are the words of a set.
func (s Set) Words() []string { return slices.Clone(s.words) }

// Pool makes sets of words of at most 255 terminals.
type Pool struct {
	k        int
	numbers  int
	sets     map[string]Set
	products map[[2]int]Set
	kept     int
}

// New is a pool that has made nothing, for products with k.
func New(k int) *Pool {
	return &Pool{k: k, sets: map[string]Set{}, products: map[[2]int]Set{}}
}

// Of is the set of words, which have to be one.
func (p *Pool) Of(words ...string) Set { return p.set(slices.Clone(words)) }

// Terms are, of so many terminals, the sets of the word that consists of it.
func (p *Pool) Terms(count int) []Set {
	var terms []Set
	for t := range count {
		terms = append(terms, p.Of(string([]byte{byte(t)})))
	}
	return terms
}

// Product is that of two sets and true, unless it is too large.
func (p *Pool) Product(a, b Set) (Set, bool) {
	if a.whole && b.Len() > 0 {
		return a, true
	}
	pair := [2]int{a.number, b.number}
	if s, ok := p.products[pair]; ok {
		return s, true
	}
	words, ok := wset.Cat(p.k, a.words, b.words)
	if !ok {
		return Set{}, false
	}
	s := p.set(words)
	p.keep(1)
	p.products[pair] = s
	return s, true
}

// set is the set of words that nobody changes.
func (p *Pool) set(words []string) Set {
	name := nameOf(words)
	s, ok := p.sets[name]
	if ok {
		return s
	}
	p.numbers++
	s = Set{number: p.numbers, words: words, whole: p.isWhole(words)}
	p.keep(len(words))
	p.sets[name] = s
	return s
}

// keep counts what is kept now, and lets the pool forget everything else if that is too much. The numbers of sets go on, so that none from before is taken for another one.
func (p *Pool) keep(count int) {
	if p.kept >= mostKept {
		clear(p.sets)
		clear(p.products)
		p.kept = 0
	}
	p.kept += count
}

// isWhole tells whether all words have k terminals.
func (p *Pool) isWhole(words []string) bool {
	return !slices.ContainsFunc(words, func(w string) bool { return len(w) != p.k })
}

// nameOf is a text that no other set has.
func nameOf(words []string) string {
	var name []byte
	for _, w := range words {
		name = append(append(name, byte(len(w))), w...)
	}
	return string(name)
}
