package way

import (
	"slices"

	"catscradle/api"
	"catscradle/hand"
)

// tried returns the kinds of operations that a search can try, in the order of the choices.
func tried() []api.OpKind {
	return []api.OpKind{api.OpRelease, api.OpNavaho, api.OpTwist, api.OpTake}
}

// possible reports whether a search can try all of some kinds.
func possible(kinds []api.OpKind) bool {
	return !slices.ContainsFunc(kinds, func(kind api.OpKind) bool { return !slices.Contains(tried(), kind) })
}

// candidates returns operations, in the order of the choices. The choices are those of them that can be done, so fingers without enough loops need not be left out here.
func candidates(fr api.Frame, c api.Code, kinds []api.OpKind) []api.Op {
	var l []api.Op
	for _, kind := range tried() {
		if !slices.Contains(kinds, kind) {
			continue
		}
		for i := range fr.Fingers {
			op := api.Op{Kind: kind, Finger: i + 1}
			switch kind {
			case api.OpTwist:
				l = append(l, op, over(op))
			case api.OpTake:
				l = append(l, takes(fr, c, op)...)
			default:
				l = append(l, op)
			}
		}
	}
	return l
}

// takes returns an OpTake of a finger from each of the strings of a posed code, without and with Over where these differ.
func takes(fr api.Frame, c api.Code, op api.Op) []api.Op {
	var l []api.Op
	// There are no errors, since the code is posed and has the strings that Names returns.
	names, _ := hand.Names(fr, c)
	for _, name := range names {
		op.From = name
		l = append(l, op)
		if route, _ := hand.Route(fr, c, op.Finger, name); len(route) > 0 {
			l = append(l, over(op))
		}
	}
	return l
}

// over returns an operation with Over.
func over(op api.Op) api.Op {
	op.Over = true
	return op
}
