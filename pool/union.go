package pool

import (
	"maps"
	"slices"

	"repertory/api"
)

// mostParts is how many sets a union knows as added, which bounds its memory.
const mostParts = 1 << 12

// Union is the union of sets of a pool, to which more can be added.
type Union struct {
	pool  *Pool
	words map[string]struct{}
	// parts has the numbers of sets that have been added.
	parts map[int]struct{}
	// set is the union at the time when it was asked for last.
	set Set
}

// Union is the union of no sets.
func (p *Pool) Union() *Union {
	return &Union{pool: p, words: map[string]struct{}{}, parts: map[int]struct{}{}}
}

// Add adds the words of a set; it tells false if they are too many now.
func (u *Union) Add(s Set) bool {
	if _, ok := u.parts[s.number]; ok {
		return true
	}
	for _, w := range s.words {
		u.words[w] = struct{}{}
	}
	if len(u.parts) >= mostParts {
		clear(u.parts)
	}
	u.parts[s.number] = struct{}{}
	return len(u.words) <= api.MaxWords
}

// Len is how many words the union has.
func (u *Union) Len() int { return len(u.words) }

// Set is the union as it is now.
func (u *Union) Set() Set {
	if len(u.words) > u.set.Len() {
		u.set = u.pool.set(slices.Sorted(maps.Keys(u.words)))
	}
	return u.set
}
