package move

import (
	"slices"

	"catscradle/api"
)

// step is a letter that a traveler meets, and whether it is a pass that goes down.
type step struct {
	api.Letter
	down bool
}

// steps returns the steps of the code, as new memory.
func (b *board) steps() []step {
	list := make([]step, len(b.Letters))
	down := true
	for i, l := range b.Letters {
		list[i].Letter = l
		if l.Kind == api.Pass {
			list[i].down = down
			down = !down
		}
	}
	return list
}

// settle returns the code of some steps, which begins with the first pass that goes down.
func settle(fingers int, list []step) api.Code {
	first := slices.IndexFunc(list, func(s step) bool { return s.down })
	letters := slices.Grow([]api.Letter(nil), len(list))
	for i := range list {
		letters = append(letters, list[(first+i)%len(list)].Letter)
	}
	return api.Code{Fingers: fingers, Letters: letters}
}

// insert returns a list, as new memory, with values before an index.
func insert[T any](list []T, at int, values ...T) []T {
	return slices.Concat(list[:at], values, list[at:])
}

// exchange lets the ends of edges exchange their positions.
func (b *board) exchange(list []step, edges ...int) []step {
	for _, edge := range edges {
		i, j := b.ends(edge)
		list[i], list[j] = list[j], list[i]
	}
	return list
}

// shift changes the ranks of a gate that are greater than a rank.
func shift(list []step, gate, rank, by int) {
	for i, s := range list {
		if s.Kind == api.Pass && s.Gate == gate && s.Rank > rank {
			list[i].Rank += by
		}
	}
}

// uncross removes crossings, and closes the gaps in the IDs.
func uncross(list []step, ids ...int) []step {
	list = slices.DeleteFunc(list, func(s step) bool {
		return s.Kind == api.Cross && slices.Contains(ids, s.ID)
	})
	for i, s := range list {
		for _, id := range ids {
			if s.ID > id {
				list[i].ID--
			}
		}
	}
	return list
}

// visit returns the step of a visit of a crossing.
func visit(id int, over bool, sign int) step {
	return step{Letter: api.Letter{Kind: api.Cross, ID: id, Over: over, Sign: sign}}
}
