package hand

import "catscradle/api"

// Opening returns a code, and the operations of an opening.
func Opening(fr api.Frame, kind api.OpeningKind) (api.Code, []api.Op, api.Errno) {
	hung := []string{"L1", "L5", "R5", "R1"}
	needed := hung
	switch kind {
	case api.OpeningFirst:
	case api.OpeningA, api.OpeningB:
		needed = []string{"L1", "L2", "L5", "R5", "R2", "R1"}
	case api.OpeningIndex:
		hung = []string{"L2", "R2"}
		needed = hung
	default:
		return api.Code{}, nil, api.ErrArg
	}
	if !Valid(fr) || !rising(numbers(fr, needed...)) {
		return api.Code{}, nil, api.ErrArg
	}
	c, e := Hang(fr, numbers(fr, hung...)...)
	left, right := numbers(fr, "L2", "L5"), numbers(fr, "R2", "R5")
	switch kind {
	case api.OpeningA:
		return c, picks(right, left), e
	case api.OpeningB:
		return c, picks(left, right), e
	}
	return c, nil, e
}

// numbers returns the numbers on the axis of the fingers with some names, 0 for a finger that the frame does not have.
func numbers(fr api.Frame, names ...string) []int {
	var l []int
	for _, name := range names {
		// The names are those of fingers, so there is no error.
		f, _ := ParseName(name)
		l = append(l, Index(fr, f))
	}
	return l
}

// rising reports whether each number is greater than the one before it, and the first one greater than 0.
func rising(l []int) bool {
	last := 0
	for _, n := range l {
		if n <= last {
			return false
		}
		last = n
	}
	return true
}

// picks returns the operations by which the index fingers of two hands take the near strings of each other's little fingers. A hand is given by these two fingers.
func picks(first, second []int) []api.Op {
	over := api.Step{At: api.String{Finger: first[1], Loop: 1}, Over: true}
	return []api.Op{
		{Kind: api.OpPick, Finger: first[0], From: api.String{Finger: second[1], Loop: 1}, Path: []api.Step{over}},
		{Kind: api.OpPick, Finger: second[0], From: api.String{Finger: first[1], Loop: 1, Piece: 1}},
	}
}
