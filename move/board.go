package move

import (
	"slices"

	"catscradle/api"
	"catscradle/code"
)

// board is a valid code, with what moves look up in it.
type board struct {
	api.Code
	counts []int      // for each gate, the number of its passes
	faces  []api.Face // none before a move asks for a face
	rims   []int      // for each dart, the index of its face
}

// look returns the board of a code, or what is wrong with the code.
func look(c api.Code) (*board, api.Errno) {
	if e := code.Check(c); e != api.OK {
		return nil, e
	}
	return lay(c), api.OK
}

// lay returns the board of a code that is known to be valid.
func lay(c api.Code) *board {
	b := &board{Code: c, counts: make([]int, c.Fingers+1)}
	for _, l := range c.Letters {
		if l.Kind == api.Pass {
			b.counts[l.Gate]++
		}
	}
	return b
}

// bare reports whether the code is the bare loop.
func (b *board) bare() bool { return len(b.Letters) == 0 }

// starts returns how many values the field A of a move can have: the bare loop counts as one edge.
func (b *board) starts() int { return max(1, len(b.Letters)) }

// ends returns the indexes of the letters at the ends of an edge.
func (b *board) ends(edge int) (int, int) {
	return edge, (edge + 1) % len(b.Letters)
}

// letters returns the letters at the ends of an edge.
func (b *board) letters(edge int) (api.Letter, api.Letter) {
	i, j := b.ends(edge)
	return b.Letters[i], b.Letters[j]
}

// side returns the index of the face to the left or to the right of an edge.
func (b *board) side(edge int, left bool) int {
	if b.rims == nil {
		// The code is valid, so there is no error.
		b.faces, _ = code.Faces(b.Code)
		b.rims = make([]int, 2*len(b.Letters))
		for i, f := range b.faces {
			for _, dart := range f.Darts {
				b.rims[dart] = i
			}
		}
	}
	if left {
		return b.rims[2*edge]
	}
	return b.rims[2*edge+1]
}

// beside returns the face to the left or to the right of an edge.
func (b *board) beside(edge int, left bool) api.Face {
	side := b.side(edge, left)
	return b.faces[side]
}

// rings returns the edges, in increasing order, of each face beside an edge that has so many edges and places on its rim and no lesser edge.
func (b *board) rings(least, edges, places int) [][]int {
	var all [][]int
	for _, left := range [2]bool{false, true} {
		f := b.beside(least, left)
		if len(f.Darts) != edges || len(f.Places) != places {
			continue
		}
		var ring []int
		for _, dart := range f.Darts {
			ring = append(ring, dart/2)
		}
		slices.Sort(ring)
		if ring[0] == least {
			all = append(all, ring)
		}
	}
	slices.SortFunc(all, slices.Compare[[]int])
	return all
}
