package way

import (
	"slices"

	"catscradle/api"
	"catscradle/code"
	"catscradle/ease"
	"catscradle/move"
)

// Trick returns a proof that operations undo the string.
func Trick(fr api.Frame, c api.Code, limit int, ops ...api.Op) (api.Proof, api.Errno) {
	if e := examine(fr, c); e != api.OK {
		return api.Proof{}, e
	}
	if !isLimit(limit) {
		return api.Proof{}, api.ErrArg
	}
	codes, e := film(fr, c, ops)
	if e != api.OK {
		return api.Proof{}, e
	}
	path, e := ease.Bare(codes[len(ops)], limit)
	if e != api.OK {
		return api.Proof{}, e
	}
	var done []api.Op
	for _, op := range ops {
		done = append(done, copied(op))
	}
	return api.Proof{Ops: done, Path: path}, api.OK
}

// Undone reports whether a proof holds.
func Undone(fr api.Frame, c api.Code, p api.Proof) bool {
	codes, e := Film(fr, c, p.Ops...)
	if e != api.OK {
		return false
	}
	for _, m := range p.Path {
		if !move.Slack(m.Kind) {
			return false
		}
	}
	// The codes of a film are valid, so there is no error.
	start, _ := code.Normal(codes[len(p.Ops)])
	end, _, e := move.Replay(start, p.Path)
	return e == api.OK && len(end.Letters) == 0
}

// copied returns an operation with a path of its own.
func copied(op api.Op) api.Op {
	op.Path = slices.Clone(op.Path)
	return op
}
