package hand

import (
	"slices"

	"catscradle/api"
	"catscradle/code"
)

// release lets the uppermost loop of a finger go.
func (h *hands) release(op api.Op) api.Errno {
	f := op.Finger
	n := h.counts()[f]
	if n == 0 {
		return api.ErrNone
	}
	left, _ := h.loop(f, n)
	tip := func() api.Move { return api.Move{Kind: api.TipRight, A: left} }
	cut := func() api.Move { return api.Move{Kind: api.AxisCut, A: below(h.pass(f, 1), h.pass(f, 2))} }
	if code.Crossings(h.code) > 0 && code.Passes(h.code) == 2 {
		return h.follow(tip)
	}
	return h.follow(tip, cut)
}

// navaho lets the second loop from the top go over the uppermost one and over the tip.
func (h *hands) navaho(op api.Op) api.Errno {
	f, counts := op.Finger, h.counts()
	n := counts[f]
	if n < 2 {
		return api.ErrNone
	}
	a, b := h.loop(f, n-1)
	c, d := h.loop(f, n)
	rightwards := h.isDown(a)
	first := code.Crossings(h.code) + 1
	nextToA, nextToB := first, first+1
	if !rightwards {
		nextToA, nextToB = nextToB, nextToA
	}
	// In the gate f - 1, a and c have this rank and the next one; in the gate f, d and b have the ranks 1 and 2.
	rank := counts[f-1] + n - 1
	return h.follow(
		func() api.Move {
			return api.Move{Kind: api.PairMake, A: below(a, b), B: below(c, d), Left: rightwards, Over: true}
		},
		func() api.Move { return api.Move{Kind: api.AxisMake, A: h.visit(first, true), B: f} },
		func() api.Move { return api.Move{Kind: api.TipLeft, A: h.pass(f, 1)} },
		func() api.Move { return h.slide(nextToA, h.pass(f-1, rank+2), h.pass(f-1, rank+1)) },
		func() api.Move {
			return api.Move{Kind: api.AxisCut, A: below(h.pass(f-1, rank), h.pass(f-1, rank+1))}
		},
		func() api.Move { return h.slide(nextToB, h.pass(f, 1), h.pass(f, 2)) },
		func() api.Move { return api.Move{Kind: api.AxisCut, A: below(h.pass(f, 2), h.pass(f, 3))} },
	)
}

// slide returns the move that slides a crossing through a gate: its visit above is joined with one pass, and its visit below with another one.
func (h *hands) slide(id, over, under int) api.Move {
	one, two := below(h.visit(id, true), over), below(h.visit(id, false), under)
	return api.Move{Kind: api.AxisSlide, A: min(one, two), B: max(one, two)}
}

// below returns the edge below the axis that joins two letters. It is never the one after the last letter, since the first letter is a pass that goes down.
func below(one, two int) int { return min(one, two) }

// twist turns the uppermost loop of a finger by half a turn.
func (h *hands) twist(op api.Op) api.Errno {
	f := op.Finger
	n := h.counts()[f]
	if n == 0 {
		return api.ErrNone
	}
	left, _ := h.loop(f, n)
	down := h.isDown(left)
	over := op.Over == down
	sign := -1
	if over == down {
		sign = 1
	}
	edge := func() int { return below(h.pass(f, 1), h.pass(f, 2)) }
	return h.follow(
		func() api.Move { return api.Move{Kind: api.TipRight, A: left} },
		func() api.Move { return api.Move{Kind: api.LoopMake, A: edge(), Over: over, Sign: sign} },
		// The visits lie between the passes, with the kink between the visits.
		func() api.Move { return api.Move{Kind: api.AxisSlide, A: edge(), B: edge() + 2} },
		func() api.Move { return api.Move{Kind: api.TipLeft, A: h.pass(f, 1)} },
	)
}

// pick lets a finger take a string along a path.
func (h *hands) pick(op api.Op) api.Errno {
	bight, path, e := h.reach(op)
	if e != api.OK {
		return e
	}
	for i, arrives := range slices.Backward(path) {
		over := op.Path[i].Over
		if e := h.push(h.index(bight), arrives, over); e != api.OK {
			return e
		}
		// Of the two new crossings, the first one comes first on the string of the bight.
		bight = h.code.Letters[h.visit(code.Crossings(h.code)-1, over)]
	}
	return h.follow(
		func() api.Move { return api.Move{Kind: api.AxisMake, A: h.index(bight), B: op.Finger} },
		func() api.Move { return api.Move{Kind: api.TipLeft, A: h.pass(op.Finger, 1)} },
	)
}

// side is a side of an edge. The edge is that behind a letter, since moves change the numbers of edges.
type side struct {
	letter    api.Letter
	backwards bool // whether it is the right side
}

// reach returns the letter before the edge that a finger picks, and for the edges of the path the sides on which the path arrives behind them; or what the operation demands in vain.
func (h *hands) reach(op api.Op) (api.Letter, []side, api.Errno) {
	goal, ok := h.edge(op.From)
	if !ok {
		return api.Letter{}, nil, api.ErrNone
	}
	var edges []int
	for _, step := range op.Path {
		edge, ok := h.edge(step.At)
		if !ok {
			return api.Letter{}, nil, api.ErrNone
		}
		edges = append(edges, edge)
	}
	if len(op.Path) > h.frame.Reach || h.counts()[op.Finger] >= h.frame.Loops {
		return api.Letter{}, nil, api.ErrReach
	}
	darts, ok := h.regions().cross(op.Finger, edges, goal)
	if !ok {
		return api.Letter{}, nil, api.ErrMove
	}
	var path []side
	for _, dart := range darts {
		path = append(path, side{letter: h.code.Letters[dart/2], backwards: dart%2 == 1})
	}
	return h.code.Letters[goal], path, api.OK
}

// cross returns, for each edge of a path of a finger to a goal, the dart with the face behind the edge to its left; and whether it is such a path.
func (r regions) cross(f int, edges []int, goal int) ([]int, bool) {
	var darts []int
	face := r.home(f)
	for i, edge := range edges {
		dart, beside := r.facing(edge, face)
		if !beside || edge == goal || slices.Contains(edges[:i], edge) {
			return nil, false
		}
		darts = append(darts, back(dart))
		face = r.rims[back(dart)]
	}
	_, beside := r.facing(goal, face)
	return darts, beside
}

// push pushes an edge over or under another one, across the face on a side of the latter.
func (h *hands) push(bight int, across side, over bool) api.Errno {
	edge := h.index(across.letter)
	dart := 2 * edge
	if across.backwards {
		dart++
	}
	r := h.regions()
	toward, beside := r.facing(bight, r.rims[dart])
	if !beside {
		// The bight itself has cut the face in two, on a path that comes to a face twice.
		return api.ErrMove
	}
	return h.apply(api.Move{Kind: api.PairMake, A: bight, B: edge, Left: toward%2 == 0, Over: over})
}
