package hand

import "catscradle/api"

// Edge returns the number of the edge that a string names.
func Edge(fr api.Frame, c api.Code, s api.String) (int, api.Errno) {
	h, e := grasp(fr, c)
	if e != api.OK {
		return 0, e
	}
	if !h.canName(s) {
		return 0, api.ErrArg
	}
	edge, ok := h.edge(s)
	if !ok {
		return 0, api.ErrNone
	}
	return edge, api.OK
}

// Names returns the names of all edges above the axis.
func Names(fr api.Frame, c api.Code) ([]api.String, api.Errno) {
	h, e := grasp(fr, c)
	if e != api.OK {
		return nil, e
	}
	var names []api.String
	for _, s := range h.above() {
		names = append(names, s.name)
	}
	return names, api.OK
}

// isFinger reports whether a number is that of a finger.
func (h *hands) isFinger(f int) bool {
	return f >= 1 && f <= h.code.Fingers
}

// canName reports whether a string could exist on some code.
func (h *hands) canName(s api.String) bool {
	return h.isFinger(s.Finger) && s.Loop >= 0 && s.Piece >= 0
}

// edge returns the edge that a string names, and whether there is one.
func (h *hands) edge(s api.String) (int, bool) {
	n := h.counts()[s.Finger]
	loop := s.Loop
	if loop == 0 {
		loop = n
	}
	if loop < 1 || loop > n {
		return 0, false
	}
	strand := h.strand(h.end(s.Finger, loop, s.Far))
	if s.Piece >= len(strand) {
		return 0, false
	}
	return strand[s.Piece], true
}

// end returns the index of the near or of the far pass of a loop.
func (h *hands) end(f, loop int, far bool) int {
	left, right := h.loop(f, loop)
	// The near side of a left hand is the left one.
	if far == h.frame.Fingers[f-1].Right {
		return left
	}
	return right
}

// strand returns the edges of the strand that begins at a pass, in the order in which one meets them from there.
func (h *hands) strand(pass int) []int {
	n := len(h.code.Letters)
	down := h.isDown(pass)
	var edges []int
	at := pass
	for len(edges) == 0 || h.code.Letters[at].Kind == api.Cross {
		edge := at
		at = (at + 1) % n
		if down {
			edge = (edge + n - 1) % n
			at = edge
		}
		edges = append(edges, edge)
	}
	return edges
}

// named is an edge and its name.
type named struct {
	edge int
	name api.String
}

// above returns all edges above the axis, in the order of their names.
func (h *hands) above() []named {
	var all []named
	met := make([]bool, len(h.code.Letters))
	for _, end := range h.ends() {
		for piece, edge := range h.strand(h.end(end.Finger, end.Loop, end.Far)) {
			// An edge is met twice, first by the lesser one of its names.
			if !met[edge] {
				met[edge] = true
				end.Piece = piece
				all = append(all, named{edge, end})
			}
		}
	}
	return all
}

// ends returns the names of the first pieces of all strands, seen from both passes, in the order of names.
func (h *hands) ends() []api.String {
	var l []api.String
	for f, n := range h.counts() {
		for loop := 1; loop <= n; loop++ {
			l = append(l, api.String{Finger: f, Loop: loop}, api.String{Finger: f, Loop: loop, Far: true})
		}
	}
	return l
}
