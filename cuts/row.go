package cuts

import (
	"iter"
	"slices"
)

// width is how many bindings, or groups of them, make a group.
const width = 16

// row holds bindings in the row in which they came. Those that are no longer live stay, for an earlier tick may still be asked for; groups let a walk pass by them.
type row struct {
	held []server

	// until[0] tells until when each of held is live, each further level the greatest number of each group of the level ahead; the last level is one group.
	until [][]int
}

// add lays b behind all others.
func (r *row) add(b binding) {
	if len(r.until) == 0 {
		r.until = append(r.until, nil)
	}
	at := len(r.held)
	r.held = append(r.held, b.server)
	for level := range r.until {
		r.until[level] = raise(r.until[level], at, b.until)
		at /= width
	}
	if top := r.until[len(r.until)-1]; len(top) > width {
		r.until = append(r.until, greatest(top))
	}
}

// live goes over the bindings that are live at now, in their row.
func (r *row) live(now int) iter.Seq[binding] {
	return func(yield func(binding) bool) {
		if top := len(r.until) - 1; top >= 0 {
			r.walk(top, 0, now, yield)
		}
	}
}

// walk goes over what is live at now in a level's group, which begins at from; false, if yield wants no more.
func (r *row) walk(level int, from int, now int, yield func(binding) bool) bool {
	until := r.until[level]
	for at := from; at < min(from+width, len(until)); at++ {
		switch {
		case !isLive(until[at], now):
			continue
		case level > 0:
			if !r.walk(level-1, at*width, now, yield) {
				return false
			}
		case !yield(binding{server: r.held[at], until: until[at]}):
			return false
		}
	}
	return true
}

// raise gives the level with the number at that place, or just behind its end, until at least.
func raise(level []int, at int, until int) []int {
	if at == len(level) {
		return append(level, until)
	}
	level[at] = max(level[at], until)
	return level
}

// greatest gives the greatest number of each group of the level.
func greatest(level []int) []int {
	var out []int
	for group := range slices.Chunk(level, width) {
		out = append(out, slices.Max(group))
	}
	return out
}
