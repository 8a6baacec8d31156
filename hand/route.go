package hand

import (
	"slices"

	"catscradle/api"
	"catscradle/code"
)

// Route returns the strings on the shortest path of a finger to a string.
func Route(fr api.Frame, c api.Code, f int, s api.String) ([]api.String, api.Errno) {
	h, e := grasp(fr, c)
	if e != api.OK {
		return nil, e
	}
	if !h.isFinger(f) || !h.canName(s) {
		return nil, api.ErrArg
	}
	return h.route(f, s)
}

// regions are the faces of a code with letters.
type regions struct {
	faces []api.Face
	rims  []int // for each dart, the index of the face to its left
}

// regions returns the regions of the code.
func (h *hands) regions() regions {
	// The code is valid, so there is no error.
	faces, _ := code.Faces(h.code)
	rims := make([]int, 2*len(h.code.Letters))
	for i, face := range faces {
		for _, dart := range face.Darts {
			rims[dart] = i
		}
	}
	return regions{faces, rims}
}

// home returns the face of a finger.
func (r regions) home(f int) int {
	return slices.IndexFunc(r.faces, func(face api.Face) bool {
		return face.Above && slices.Contains(face.Fingers, f)
	})
}

// facing returns the dart of an edge that has a face to its left, and whether there is one.
func (r regions) facing(edge, face int) (int, bool) {
	for dart := 2 * edge; dart < 2*edge+2; dart++ {
		if r.rims[dart] == face {
			return dart, true
		}
	}
	return 0, false
}

// back returns the other dart of an edge.
func back(dart int) int { return dart ^ 1 }

// arrival is a face, and how a finger has come to it.
type arrival struct {
	face  int
	route []api.String
}

// route returns the route of a finger to the edge of a string.
func (h *hands) route(f int, to api.String) ([]api.String, api.Errno) {
	goal, ok := h.edge(to)
	if !ok {
		return nil, api.ErrNone
	}
	r, edges := h.regions(), h.above()
	home := r.home(f)
	met := map[int]bool{home: true}
	waiting := []arrival{{face: home}}
	var route []api.String
	found := api.ErrMove
	// Edges are crossed in the order of their names, so that the first route to a face is the least one of those with the fewest edges.
search:
	for len(waiting) > 0 {
		at := waiting[0]
		waiting = waiting[1:]
		for _, e := range edges {
			dart, beside := r.facing(e.edge, at.face)
			if !beside {
				continue
			}
			if e.edge == goal {
				route, found = at.route, api.OK
				break search
			}
			behind := r.rims[back(dart)]
			if !met[behind] {
				met[behind] = true
				waiting = append(waiting, arrival{behind, append(slices.Clone(at.route), e.name)})
			}
		}
	}
	return route, found
}
