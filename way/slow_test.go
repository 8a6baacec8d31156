package way_test

import (
	"slices"

	"catscradle/api"
	"catscradle/code"
	"catscradle/ease"
	"catscradle/hand"
)

// slowChoices follows the definition to the letter.
func slowChoices(fr api.Frame, c api.Code, kinds []api.OpKind) []api.Op {
	loops, _ := hand.Loops(fr, c)
	names, _ := hand.Names(fr, c)
	var l []api.Op
	try := func(op api.Op) {
		if _, _, e := hand.Do(fr, c, op); e == api.OK {
			l = append(l, op)
		}
	}
	if slices.Contains(kinds, api.OpRelease) {
		for f, n := range loops {
			if n >= 1 {
				try(release(f + 1))
			}
		}
	}
	if slices.Contains(kinds, api.OpNavaho) {
		for f, n := range loops {
			if n >= 2 {
				try(navaho(f + 1))
			}
		}
	}
	if slices.Contains(kinds, api.OpTwist) {
		for f, n := range loops {
			if n >= 1 {
				try(twist(f+1, false))
				try(twist(f+1, true))
			}
		}
	}
	if slices.Contains(kinds, api.OpTake) {
		for f := range loops {
			for _, name := range names {
				try(take(f+1, name, false))
				if route, e := hand.Route(fr, c, f+1, name); e != api.OK || len(route) > 0 {
					try(take(f+1, name, true))
				}
			}
		}
	}
	return l
}

// entry is a code of a search, its normal form, and the operations that lead to it.
type entry struct {
	c      api.Code
	normal api.Code
	ops    []api.Op
}

// slowSearch returns the list of a search, and whether it was cut off. It compares each code with all of the list.
func slowSearch(fr api.Frame, a api.Code, r api.Rules) ([]entry, bool) {
	list := []entry{{c: a, normal: normal(a)}}
	for i := 0; i < len(list); i++ {
		at := list[i]
		if !hand.Posed(fr, at.c) || len(at.ops) >= r.Depth {
			continue
		}
		for _, op := range slowChoices(fr, at.c, r.Kinds) {
			next, _, _ := hand.Do(fr, at.c, op)
			n := normal(next)
			if slices.ContainsFunc(list, func(e entry) bool { return equal(e.normal, n) }) {
				continue
			}
			if len(list) == r.Nodes {
				return list, true
			}
			list = append(list, entry{next, n, append(slices.Clone(at.ops), op)})
		}
	}
	return list, false
}

// normal returns the normal form of a valid code.
func normal(c api.Code) api.Code {
	n, _ := code.Normal(c)
	return n
}

// reaches reports whether a code reaches one of some goals.
func reaches(c api.Code, limit int, goals []api.Code) bool {
	one, _ := ease.Make(c, limit)
	return slices.ContainsFunc(goals, func(goal api.Code) bool {
		two, _ := ease.Make(goal, limit)
		return equal(one.Code, two.Code)
	})
}

// slowSeek returns the operations of the first code of a search that reaches a goal, and the greatest index of such a goal; or the error if there is none.
func slowSeek(fr api.Frame, a api.Code, r api.Rules, goals []api.Code) ([]api.Op, int, api.Errno) {
	list, open := slowSearch(fr, a, r)
	var forms []api.Form
	for _, goal := range goals {
		form, _ := ease.Make(goal, r.Limit)
		forms = append(forms, form)
		open = open || !form.Whole
	}
	for _, at := range list {
		last := -1
		got, _ := ease.Make(at.c, r.Limit)
		open = open || !got.Whole
		for i, form := range forms {
			if equal(form.Code, got.Code) {
				last = i
			}
		}
		if last >= 0 {
			return at.ops, last, api.OK
		}
	}
	if open {
		return nil, 0, api.ErrOpen
	}
	return nil, 0, api.ErrNone
}

// slowFar counts the codes of a search by their numbers of operations.
func slowFar(fr api.Frame, a api.Code, r api.Rules) ([]int, bool) {
	counts := make([]int, r.Depth+1)
	list, cut := slowSearch(fr, a, r)
	for _, at := range list {
		counts[len(at.ops)]++
	}
	return counts, !cut
}

// slowFilm returns the codes of a film by running all beginnings of the series.
func slowFilm(fr api.Frame, c api.Code, ops []api.Op) ([]api.Code, api.Errno) {
	var film []api.Code
	for n := range len(ops) + 1 {
		end, _, e := hand.Run(fr, c, ops[:n]...)
		if e != api.OK {
			return nil, e
		}
		film = append(film, end)
	}
	return film, api.OK
}

// slowTeach returns the lesson for arguments that are right.
func slowTeach(fr api.Frame, c, wrong api.Code, r api.Rules, ops []api.Op) (api.Lesson, api.Errno) {
	film, e := slowFilm(fr, c, ops)
	if e != api.OK {
		return api.Lesson{}, e
	}
	correction, at, e := slowSeek(fr, wrong, r, film)
	if e != api.OK {
		return api.Lesson{}, e
	}
	l := api.Lesson{Ops: correction, At: at}
	switch {
	case len(correction) > 0:
		l.Next = correction[0]
	case at == len(ops):
		l.Done = true
	default:
		l.Next = ops[at]
	}
	return l, api.OK
}

// reachable reports whether a list of at most n choices leads from a code to one that reaches one of some goals. It goes through all lists, and leaves out no code that it has met before.
func reachable(fr api.Frame, a api.Code, r api.Rules, n int, goals []api.Code) bool {
	if reaches(a, r.Limit, goals) {
		return true
	}
	if n <= 0 || !hand.Posed(fr, a) {
		return false
	}
	for _, op := range slowChoices(fr, a, r.Kinds) {
		next, _, _ := hand.Do(fr, a, op)
		if reachable(fr, next, r, n-1, goals) {
			return true
		}
	}
	return false
}
