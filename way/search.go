package way

import (
	"slices"

	"catscradle/api"
	"catscradle/code"
	"catscradle/ease"
	"catscradle/hand"
)

// queue hands items out in the order in which they came in.
type queue[T any] struct {
	items []T
}

func (q *queue[T]) add(item T) {
	q.items = append(q.items, item)
}

// take returns the item that has waited longest, and whether there is one.
func (q *queue[T]) take() (T, bool) {
	var item T
	if len(q.items) == 0 {
		return item, false
	}
	// The zero value lets go of the memory of the item.
	item, q.items[0] = q.items[0], item
	q.items = q.items[1:]
	return item, true
}

// node is a code of a search, and the operations that lead to it.
type node struct {
	code api.Code
	ops  []api.Op
}

// cutOff is the value with which a search panics that would have to keep too many codes.
type cutOff struct{}

// search makes the search from a valid code. It hands each code, when it is added, to the test, and ends as soon as the test holds. It reports whether it was cut off.
func search(fr api.Frame, from api.Code, r api.Rules, test func(node) bool) (cut bool) {
	defer func() {
		p := recover()
		_, cut = p.(cutOff)
		if p != nil && !cut {
			panic(p)
		}
	}()
	known := map[string]bool{}
	var waiting queue[node]
	// ends adds a code that is not known, and reports whether the test holds.
	ends := func(n node) bool {
		key := name(n.code)
		if known[key] {
			return false
		}
		if len(known) == r.Nodes {
			panic(cutOff{})
		}
		known[key] = true
		waiting.add(n)
		return test(n)
	}
	if ends(node{code: from}) {
		return false
	}
	for {
		at, more := waiting.take()
		if !more {
			return false
		}
		if len(at.ops) == r.Depth || !hand.Posed(fr, at.code) {
			continue
		}
		for _, op := range candidates(fr, at.code, r.Kinds) {
			next, _, e := hand.Do(fr, at.code, op)
			if e == api.OK && ends(node{code: next, ops: append(slices.Clone(at.ops), op)}) {
				return false
			}
		}
	}
}

// name returns what codes that are the same have in common: the print of their normal form.
func name(c api.Code) string {
	// The code is valid, so there is no error.
	normal, _ := code.Normal(c)
	return code.Print(normal)
}

// seek returns the operations of the first code of a search that reaches one of some goals, and the greatest index of a goal that it reaches.
func seek(fr api.Frame, from api.Code, r api.Rules, goals ...api.Code) ([]api.Op, int, api.Errno) {
	whole := true
	form := func(c api.Code) api.Code {
		// The code is valid and the limit is in its range, so there is no error.
		f, _ := ease.Make(c, r.Limit)
		whole = whole && f.Whole
		return f.Code
	}
	var forms []api.Code
	for _, goal := range goals {
		forms = append(forms, form(goal))
	}
	var ops []api.Op
	reached := -1
	cut := search(fr, from, r, func(n node) bool {
		ops, reached = n.ops, last(forms, form(n.code))
		return reached >= 0
	})
	switch {
	case reached >= 0:
		return ops, reached, api.OK
	case cut || !whole:
		return nil, 0, api.ErrOpen
	}
	return nil, 0, api.ErrNone
}

// last returns the greatest index of a code that is equal to another one, -1 if there is none.
func last(l []api.Code, c api.Code) int {
	for i, other := range slices.Backward(l) {
		if ease.Compare(other, c) == 0 {
			return i
		}
	}
	return -1
}
