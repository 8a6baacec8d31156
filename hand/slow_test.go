package hand_test

import (
	"iter"
	"slices"
	"testing"

	"catscradle/api"
	"catscradle/code"
)

// loops returns the loops of each finger, from the outside inwards, as the definition says: the indexes of the left and of the right pass.
func loops(c api.Code) map[int][][2]int {
	all := map[int][][2]int{}
	for _, i := range downs(c) {
		left, right := i, i+1
		if c.Letters[left].Gate > c.Letters[right].Gate {
			left, right = right, left
		}
		f := c.Letters[right].Gate
		all[f] = append(all[f], [2]int{left, right})
	}
	for _, l := range all {
		slices.SortFunc(l, func(a, b [2]int) int { return c.Letters[a[0]].Rank - c.Letters[b[0]].Rank })
	}
	return all
}

// chart is what a code looks like above the axis.
type chart struct {
	faces []api.Face
	rims  map[int][]int        // for each face above, its edges
	names map[int][]api.String // for each edge above, its two names, in their order
}

// newChart returns the chart of a scene.
func newChart(s scene) chart {
	m := chart{rims: map[int][]int{}, names: map[int][]api.String{}}
	m.faces, _ = code.Faces(s.c)
	for i, face := range m.faces {
		if !face.Above {
			continue
		}
		for _, dart := range face.Darts {
			m.rims[i] = append(m.rims[i], dart/2)
		}
	}
	goesDown := downs(s.c)
	for f, list := range loops(s.c) {
		for i, passes := range list {
			for side, pass := range passes {
				// The left side of a right hand is the far one.
				name := api.String{Finger: f, Loop: i + 1, Far: (side == 0) == s.fr.Fingers[f-1].Right}
				step := 1
				if slices.Contains(goesDown, pass) {
					step = -1
				}
				for piece, edge := range walk(s.c, pass, step) {
					name.Piece = piece
					m.names[edge] = append(m.names[edge], name)
				}
			}
		}
	}
	for _, names := range m.names {
		slices.SortFunc(names, ordered)
	}
	return m
}

// walk returns the edges from a pass to the next one, forwards or backwards.
func walk(c api.Code, pass, step int) []int {
	n := len(c.Letters)
	var edges []int
	for at := pass; ; {
		next := (at + step + n) % n
		if step > 0 {
			edges = append(edges, at)
		} else {
			edges = append(edges, next)
		}
		if c.Letters[next].Kind == api.Pass {
			return edges
		}
		at = next
	}
}

// allNames yields the lists of names of each edge above, in the order of the lesser ones.
func allNames(s scene) iter.Seq[[]api.String] {
	var all [][]api.String
	for _, names := range newChart(s).names {
		all = append(all, names)
	}
	slices.SortFunc(all, func(a, b []api.String) int { return ordered(a[0], b[0]) })
	return slices.Values(all)
}

// home returns the face of a finger.
func (m chart) home(f int) int {
	return slices.IndexFunc(m.faces, func(face api.Face) bool { return face.Above && slices.Contains(face.Fingers, f) })
}

// across returns the face on the other side of an edge.
func (m chart) across(edge, face int) int {
	for i := range m.rims {
		if i != face && slices.Contains(m.rims[i], edge) {
			return i
		}
	}
	return face
}

// isPath reports whether edges are a path of a finger to an edge, and whether it comes to no face twice.
func (m chart) isPath(f int, edges []int, goal int) (bool, bool) {
	face := m.home(f)
	faces := map[int]bool{face: true}
	met := map[int]bool{goal: true}
	once := true
	for _, edge := range edges {
		if !slices.Contains(m.rims[face], edge) || met[edge] {
			return false, false
		}
		met[edge] = true
		face = m.across(edge, face)
		once = once && !faces[face]
		faces[face] = true
	}
	is := slices.Contains(m.rims[face], goal)
	return is, is && once
}

// slowRoute tries all paths, from the shortest ones on, and takes the least one of the first length that has any.
func (m chart) slowRoute(f, goal int) []api.String {
	for n := 0; ; n++ {
		var best []api.String
		found := false
		for path := range m.paths(m.home(f), nil, n) {
			if ok, _ := m.isPath(f, path, goal); !ok {
				continue
			}
			var names []api.String
			for _, edge := range path {
				names = append(names, m.names[edge][0])
			}
			if !found || slices.CompareFunc(names, best, ordered) < 0 {
				best, found = names, true
			}
		}
		if found {
			return best
		}
	}
}

// paths yields all lists of n edges that can be crossed one after the other from a face on, behind some edges.
func (m chart) paths(face int, edges []int, n int) iter.Seq[[]int] {
	return func(yield func([]int) bool) {
		if n == 0 {
			yield(edges)
			return
		}
		for _, edge := range m.rims[face] {
			for path := range m.paths(m.across(edge, face), append(slices.Clone(edges), edge), n-1) {
				if !yield(path) {
					return
				}
			}
		}
	}
}

// edge returns the edge that a string names, -1 if there is none.
func (m chart) edge(s api.String) int {
	if s.Loop == 0 {
		for _, names := range m.names {
			for _, name := range names {
				if name.Finger == s.Finger {
					s.Loop = max(s.Loop, name.Loop)
				}
			}
		}
	}
	for edge, names := range m.names {
		if slices.Contains(names, s) {
			return edge
		}
	}
	return -1
}

// The charts themselves are as the chapter says: each edge above has two names, and two faces beside it.
func TestCharts(t *testing.T) {
	for _, s := range samples() {
		m := newChart(s)
		sides := map[int]int{}
		for _, edges := range m.rims {
			for _, edge := range edges {
				sides[edge]++
			}
		}
		if len(sides) != len(m.names) {
			t.Errorf("%v: %d edges above, %d with names", s, len(sides), len(m.names))
		}
		for edge, names := range m.names {
			if len(names) != 2 || names[0] == names[1] || sides[edge] != 2 {
				t.Errorf("%v: edge %d has the names %v, and %d sides", s, edge, names, sides[edge])
			}
		}
	}
}
