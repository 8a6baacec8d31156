package ease

import (
	"slices"

	"catscradle/api"
	"catscradle/code"
	"catscradle/move"
)

// queue hands items out in the order in which they came in.
type queue[T any] struct {
	items []T
}

func (q *queue[T]) add(item T) {
	q.items = append(q.items, item)
}

// take returns the item that has waited longest, and whether there is one.
func (q *queue[T]) take() (T, bool) {
	var item T
	if len(q.items) == 0 {
		return item, false
	}
	// The zero value lets go of the memory of the item.
	item, q.items[0] = q.items[0], item
	q.items = q.items[1:]
	return item, true
}

// way is a way from the first code of a class to another one: the way to the code before, and one more move. The way to the first code is nil.
type way struct {
	before *way
	last   api.Move
}

// moves returns the moves of a way in order.
func (w *way) moves() []api.Move {
	var l []api.Move
	for ; w != nil; w = w.before {
		l = append(l, w.last)
	}
	slices.Reverse(l)
	return l
}

// member is a code of a class, as level moves have made it.
type member struct {
	code   api.Code
	normal api.Code
	way    *way
}

// search computes the class of a valid code up to a limit. It hands each code, when it is added, to meet, and ends as soon as meet returns false. It reports whether the class is whole.
func search(c api.Code, limit int, meet func(member) bool) bool {
	met := map[string]bool{}
	var waiting queue[member]
	// add reports whether to go on.
	add := func(m member) bool {
		met[code.Print(m.normal)] = true
		// Normal forms are left out of the queue, to save memory.
		waiting.add(member{code: m.code, way: m.way})
		return meet(m)
	}
	if !add(member{code: c, normal: normal(c)}) {
		return false
	}
	whole := false
members:
	for {
		from, more := waiting.take()
		if !more {
			whole = true
			break members
		}
		for _, m := range levels(from.code) {
			next := apply(from.code, m)
			form := normal(next)
			if met[code.Print(form)] {
				continue
			}
			if len(met) == limit || !add(member{code: next, normal: form, way: &way{before: from.way, last: m}}) {
				break members
			}
		}
	}
	return whole
}

// reduce returns what remains of a valid code when it is reduced, and the moves.
func reduce(c api.Code) (api.Code, []api.Move) {
	var moves []api.Move
	for {
		l := cuts(c)
		if len(l) == 0 {
			return c, moves
		}
		c = apply(c, l[0])
		moves = append(moves, l[0])
	}
}

// cuts returns the possible reducing moves of a valid code, in their order.
func cuts(c api.Code) []api.Move {
	l, _ := move.Some(c, api.AxisCut, api.LoopCut, api.PairCut)
	return l
}

// reducible reports whether a valid code has a possible reducing move.
func reducible(c api.Code) bool { return len(cuts(c)) > 0 }

// levels returns the possible level moves of a valid code, in their order.
func levels(c api.Code) []api.Move {
	l, _ := move.Some(c, api.AxisSlide, api.Triangle)
	return l
}

// apply returns what a possible move makes of a valid code.
func apply(c api.Code, m api.Move) api.Code {
	result, _ := move.Apply(c, m)
	return result
}

// normal returns the normal form of a valid code.
func normal(c api.Code) api.Code {
	form, _ := code.Normal(c)
	return form
}
