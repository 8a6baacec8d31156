package move

import (
	"cmp"
	"slices"

	"catscradle/api"
	"catscradle/code"
)

// rule says what a kind of moves does.
type rule struct {
	letters   int // by how many the code grows
	crossings int
	find      func(b *board, a int) []api.Move  // the possible moves with the edge or letter a, in their order
	edit      func(b *board, m api.Move) []step // what a possible move makes of the code
}

// rules returns the rules of all kinds.
func rules() [api.TipLeft + 1]rule {
	return [...]rule{
		api.AxisCut:   {find: (*board).axisCuts, edit: (*board).cutAxis},
		api.AxisMake:  {letters: 2, find: (*board).axisMakes, edit: (*board).makeAxis},
		api.AxisSlide: {find: (*board).axisSlides, edit: (*board).slideAxis},
		api.LoopCut:   {find: (*board).loopCuts, edit: (*board).cutLoop},
		api.LoopMake:  {letters: 2, crossings: 1, find: (*board).loopMakes, edit: (*board).makeLoop},
		api.PairCut:   {find: (*board).pairCuts, edit: (*board).cutPair},
		api.PairMake:  {letters: 4, crossings: 2, find: (*board).pairMakes, edit: (*board).makePair},
		api.Triangle:  {find: (*board).triangles, edit: (*board).turnTriangle},
		api.TipRight:  {find: (*board).tipRights, edit: (*board).tipRight},
		api.TipLeft:   {find: (*board).tipLefts, edit: (*board).tipLeft},
	}
}

// apply returns the code that results from a move.
func (b *board) apply(m api.Move) (api.Code, api.Errno) {
	if !b.names(m) {
		return api.Code{}, api.ErrArg
	}
	if !slices.Contains(b.find(m.Kind, m.A), m) {
		return api.Code{}, api.ErrMove
	}
	if !b.hasRoom(m.Kind) {
		return api.Code{}, api.ErrLong
	}
	return b.do(m), api.OK
}

// names reports whether a move names edges, letters and places of the code, as its kind asks for, and nothing else.
func (b *board) names(m api.Move) bool {
	if !exists(m.Kind) || m != used(m) {
		return false
	}
	n := len(b.Letters)
	switch m.Kind {
	case api.AxisMake:
		place := m.B >= 0 && m.B <= b.Fingers && m.C >= 0 && m.C <= b.counts[m.B]
		return m.A >= 0 && m.A < b.starts() && place
	case api.AxisSlide, api.PairCut:
		return m.A >= 0 && m.A < m.B && m.B < n
	case api.LoopMake:
		return m.A >= 0 && m.A < n && (m.Sign == 1 || m.Sign == -1)
	case api.PairMake:
		return m.A >= 0 && m.A < n && m.B >= 0 && m.B < n && m.A != m.B
	case api.Triangle:
		return m.A >= 0 && m.A < m.B && m.B < m.C && m.C < n
	}
	return m.A >= 0 && m.A < n
}

// find returns the possible moves of a kind with the edge or letter a, in their order.
func (b *board) find(kind api.MoveKind, a int) []api.Move {
	if b.bare() && kind != api.AxisMake {
		return nil
	}
	return rules()[kind].find(b, a)
}

// hasRoom reports whether the results of the moves of a kind keep to the limits.
func (b *board) hasRoom(kind api.MoveKind) bool {
	r := rules()[kind]
	return len(b.Letters)+r.letters <= api.MaxLetters && code.Crossings(b.Code)+r.crossings <= api.MaxCrossings
}

// do returns the code that results from a possible move.
func (b *board) do(m api.Move) api.Code {
	return settle(b.Fingers, rules()[m.Kind].edit(b, m))
}

// order compares two moves of one kind.
func order(a, b api.Move) int {
	return cmp.Or(
		cmp.Compare(a.A, b.A),
		cmp.Compare(a.B, b.B),
		cmp.Compare(a.C, b.C),
		cmp.Compare(number(a.Left), number(b.Left)),
		cmp.Compare(number(a.Over), number(b.Over)),
		cmp.Compare(a.Sign, b.Sign),
	)
}

// number returns the place of a truth value in the order of moves.
func number(is bool) int {
	if is {
		return 1
	}
	return 0
}
