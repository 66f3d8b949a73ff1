package follow_test

import (
	"fmt"
	"slices"

	"repertory/api"
)

// reader tells how the nonterminals of a grammar read a word.
type reader struct {
	gram api.Gram
	word string
	// ends are of each nonterminal and each index the indices up to which it derives the word from there on; begins tells whether it derives a string that begins with the rest.
	ends   [][][]bool
	begins [][]bool
	// ended are of each nonterminal and each index whether the rest of the word follows it, begun whether a string that begins with the rest does.
	ended [][]bool
	begun [][]bool
}

// newReader finds what holds, until no rule finds more.
func newReader(g api.Gram, word string) *reader {
	r := &reader{gram: g, word: word}
	for range g.Names {
		var ends [][]bool
		for range len(word) + 1 {
			ends = append(ends, make([]bool, len(word)+1))
		}
		r.ends, r.begins = append(r.ends, ends), append(r.begins, make([]bool, len(word)+1))
	}
	for more := true; more; {
		more = false
		for _, rule := range g.Rules {
			for from := range len(word) + 1 {
				for to := range len(word) + 1 {
					if !r.ends[rule.Left][from][to] && r.derives(from, to, rule.Right) {
						r.ends[rule.Left][from][to], more = true, true
					}
				}
				if !r.begins[rule.Left][from] && r.starts(from, rule.Right) {
					r.begins[rule.Left][from], more = true, true
				}
			}
		}
	}
	r.ended, r.begun = r.follows(false), r.follows(true)
	return r
}

// derives tells whether symbols derive the piece of the word between two indices.
func (r *reader) derives(from, to int, syms []int) bool {
	if len(syms) == 0 {
		return from == to
	}
	for middle := from; middle <= to; middle++ {
		if r.one(syms[0], from, middle) && r.derives(middle, to, syms[1:]) {
			return true
		}
	}
	return false
}

// one tells whether a symbol derives the piece of the word between two indices.
func (r *reader) one(sym, from, to int) bool {
	if sym >= 0 {
		return r.ends[sym][from][to]
	}
	return to == from+1 && int(r.word[from]) == -1-sym
}

// starts tells whether symbols derive a string that begins with the word from an index on, if each nonterminal derives something.
func (r *reader) starts(from int, syms []int) bool {
	if from == len(r.word) {
		return true
	}
	if len(syms) == 0 {
		return false
	}
	if syms[0] >= 0 && r.begins[syms[0]][from] {
		return true
	}
	for to := from; to <= len(r.word); to++ {
		if r.one(syms[0], from, to) && r.starts(to, syms[1:]) {
			return true
		}
	}
	return false
}

// readers are those of all words of at most k terminals.
func readers(g api.Gram, k int) []*reader {
	var list []*reader
	for _, w := range allWords(len(g.Terms), k) {
		list = append(list, newReader(g, w))
	}
	return list
}

// follows tells of each nonterminal and each index whether the rest of the word follows the nonterminal, or whether a longer string that begins with it may, if each nonterminal is reached.
func (r *reader) follows(longer bool) [][]bool {
	var known [][]bool
	for n := range r.gram.Names {
		known = append(known, make([]bool, len(r.word)+1))
		known[n][len(r.word)] = longer || n == 0
	}
	for more := true; more; {
		more = false
		for _, rule := range r.gram.Rules {
			for at, sym := range rule.Right {
				for from := 0; sym >= 0 && from <= len(r.word); from++ {
					if !known[sym][from] && r.behind(known, longer, from, rule, at) {
						known[sym][from], more = true, true
					}
				}
			}
		}
	}
	return known
}

// behind tells whether the word from an index on can stand behind a symbol of a rule, by what is known to follow nonterminals.
func (r *reader) behind(known [][]bool, longer bool, from int, rule api.Rule, at int) bool {
	tail := rule.Right[at+1:]
	if longer && r.starts(from, tail) {
		return true
	}
	for to := from; to <= len(r.word); to++ {
		if r.derives(from, to, tail) && known[rule.Left][to] {
			return true
		}
	}
	return false
}

// allowed is the follow set of a nonterminal that derivations allow.
func allowed(list []*reader, k, n int) []string {
	return chosen(list, k, func(r *reader, known [][]bool, longer bool) bool { return known[n][0] })
}

// allowedBehind is what derivations allow behind a symbol of a rule.
func allowedBehind(list []*reader, k int, rule api.Rule, at int) []string {
	return chosen(list, k, func(r *reader, known [][]bool, longer bool) bool { return r.behind(known, longer, 0, rule, at) })
}

// chosen are the words of which something holds: by longer strings if they have k terminals, else as they are.
func chosen(list []*reader, k int, holds func(r *reader, known [][]bool, longer bool) bool) []string {
	var words []string
	for _, r := range list {
		if len(r.word) == k && holds(r, r.begun, true) || len(r.word) < k && holds(r, r.ended, false) {
			words = append(words, r.word)
		}
	}
	return ordered(words)
}

// forms are all strings of symbols that nonterminal 0 derives, or nil if there are too many.
func forms(g api.Gram, most int) [][]int {
	list, known := [][]int{{0}}, map[string]bool{"[0]": true}
	for at := 0; at < len(list); at++ {
		for i, sym := range list[at] {
			for _, r := range g.Rules {
				form := slices.Concat(list[at][:i], r.Right, list[at][i+1:])
				if r.Left == sym && !known[fmt.Sprint(form)] {
					known[fmt.Sprint(form)] = true
					list = append(list, form)
				}
			}
		}
		if len(list) > most {
			return nil
		}
	}
	return list
}

// followers are, of a nonterminal, the strings of terminals behind it in strings of symbols.
func followers(forms [][]int, n int) []string {
	var list []string
	for _, form := range forms {
		var tail []byte
		at := len(form) - 1
		for ; at >= 0 && form[at] < 0; at-- {
			tail = append(tail, byte(-1-form[at]))
		}
		if at >= 0 && form[at] == n {
			slices.Reverse(tail)
			list = append(list, string(tail))
		}
	}
	return list
}
