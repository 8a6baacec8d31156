package way

import (
	"slices"

	"catscradle/api"
	"catscradle/ease"
)

// Teach leads from a wrong code back to the film of a series of operations.
func Teach(fr api.Frame, c, wrong api.Code, r api.Rules, ops ...api.Op) (api.Lesson, api.Errno) {
	if e := examine(fr, c, wrong); e != api.OK {
		return api.Lesson{}, e
	}
	if !allowed(r) {
		return api.Lesson{}, api.ErrArg
	}
	codes, e := film(fr, c, ops)
	if e != api.OK {
		return api.Lesson{}, e
	}
	correction, at, e := seek(fr, wrong, r, codes...)
	if e != api.OK {
		return api.Lesson{}, e
	}
	next, done := goOn(correction, ops[at:])
	return api.Lesson{Ops: correction, At: at, Next: next, Done: done}, api.OK
}

// Check reports whether a lesson is right.
func Check(fr api.Frame, c, wrong api.Code, limit int, l api.Lesson, ops ...api.Op) bool {
	if examine(fr, c, wrong) != api.OK || !isLimit(limit) {
		return false
	}
	codes, e := film(fr, c, ops)
	if e != api.OK || l.At < 0 || l.At > len(ops) {
		return false
	}
	next, done := goOn(l.Ops, ops[l.At:])
	if !equal(l.Next, next) || l.Done != done {
		return false
	}
	corrected, e := film(fr, wrong, l.Ops)
	if e != api.OK {
		return false
	}
	// The codes of films are valid and the limit is in its range, so there are no errors.
	got, _ := ease.Make(corrected[len(l.Ops)], limit)
	want, _ := ease.Make(codes[l.At], limit)
	return ease.Compare(got.Code, want.Code) == 0
}

// goOn returns the operation that is to be done now: the first one of a correction, or of the rest of a series if there is nothing to correct; and whether there is none.
func goOn(correction, rest []api.Op) (api.Op, bool) {
	ahead := slices.Concat(correction, rest)
	if len(ahead) == 0 {
		return api.Op{}, true
	}
	return copied(ahead[0]), false
}

// equal reports whether two operations are equal.
func equal(a, b api.Op) bool {
	return a.Kind == b.Kind && a.Finger == b.Finger && a.From == b.From && a.Over == b.Over && slices.Equal(a.Path, b.Path)
}
