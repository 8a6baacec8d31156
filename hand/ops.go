package hand

import (
	"slices"

	"catscradle/api"
	"catscradle/move"
)

// Expand returns the elementary operations of an operation.
func Expand(fr api.Frame, c api.Code, op api.Op) ([]api.Op, api.Errno) {
	h, e := perform(fr, c, op)
	if e != api.OK {
		return nil, e
	}
	return h.ops, api.OK
}

// Do does an operation.
func Do(fr api.Frame, c api.Code, op api.Op) (api.Code, []api.Move, api.Errno) {
	h, e := perform(fr, c, op)
	if e != api.OK {
		return api.Code{}, nil, e
	}
	return h.code, h.moves, api.OK
}

// Run does operations one after the other.
func Run(fr api.Frame, c api.Code, ops ...api.Op) (api.Code, int, api.Errno) {
	h, e := grasp(fr, c)
	if e != api.OK {
		return api.Code{}, 0, e
	}
	current := h.code
	for i, op := range ops {
		// The string can be off all fingers, so each code is examined anew.
		current, _, e = Do(fr, current, op)
		if e != api.OK {
			return api.Code{}, i, e
		}
	}
	return current, len(ops), api.OK
}

// perform returns the hands that have done an operation.
func perform(fr api.Frame, c api.Code, op api.Op) (*hands, api.Errno) {
	h, e := grasp(fr, c)
	if e != api.OK {
		return nil, e
	}
	if !h.understand(op) {
		return nil, api.ErrArg
	}
	return h, h.do(op)
}

// understand reports whether an operation has a kind and the fields that its kind names, with fingers and strings that could exist, and no others.
func (h *hands) understand(op api.Op) bool {
	if !h.isFinger(op.Finger) {
		return false
	}
	nowhere := op.From == api.String{}
	direct := len(op.Path) == 0
	switch op.Kind {
	case api.OpRelease, api.OpNavaho, api.OpDrop:
		return nowhere && direct && !op.Over
	case api.OpTwist:
		return nowhere && direct
	case api.OpPick:
		return h.canName(op.From) && !op.Over && !slices.ContainsFunc(op.Path, func(s api.Step) bool { return !h.canName(s.At) })
	case api.OpTake:
		return h.canName(op.From) && direct
	case api.OpTransfer, api.OpExchange:
		g := op.From.Finger
		return op.From == api.String{Finger: g} && h.isFinger(g) && g != op.Finger && direct
	}
	return false
}

// elementary returns what does the elementary operations.
func elementary() map[api.OpKind]func(*hands, api.Op) api.Errno {
	return map[api.OpKind]func(*hands, api.Op) api.Errno{
		api.OpRelease: (*hands).release,
		api.OpNavaho:  (*hands).navaho,
		api.OpPick:    (*hands).pick,
		api.OpTwist:   (*hands).twist,
	}
}

// do does an operation that is understood.
func (h *hands) do(op api.Op) api.Errno {
	if act, ok := elementary()[op.Kind]; ok {
		op.Path = slices.Clone(op.Path)
		h.ops = append(h.ops, op)
		return act(h, op)
	}
	parts, e := h.parts(op)
	if e != api.OK {
		return e
	}
	for _, part := range parts {
		if e := h.do(part); e != api.OK {
			return e
		}
	}
	return api.OK
}

// parts returns the operations of which one consists that is not elementary. The first one of them is elementary; the others may have to be expanded, each for the code to which those before it lead.
func (h *hands) parts(op api.Op) ([]api.Op, api.Errno) {
	f, g, n := op.Finger, op.From.Finger, h.counts()
	var rest []api.Op
	switch op.Kind {
	case api.OpExchange:
		if n[f] == 0 {
			return nil, api.ErrNone
		}
		rest = []api.Op{
			{Kind: api.OpTake, Finger: g, From: h.toward(g, f, n[f]), Over: !op.Over},
			{Kind: api.OpNavaho, Finger: f},
		}
		fallthrough
	case api.OpTransfer:
		if n[g] == 0 {
			return nil, api.ErrNone
		}
		rest = slices.Insert(rest, 0, api.Op{Kind: api.OpRelease, Finger: g})
		op.From = h.toward(f, g, 0)
		fallthrough
	case api.OpTake:
		pick, e := h.aim(op)
		if e != api.OK {
			return nil, e
		}
		rest = slices.Insert(rest, 0, pick)
	case api.OpDrop:
		if n[f] == 0 {
			return nil, api.ErrNone
		}
		rest = slices.Repeat([]api.Op{{Kind: api.OpRelease, Finger: f}}, n[f])
	}
	return rest, api.OK
}

// toward returns the name of the string of a loop of finger g that lies on the side of finger f.
func (h *hands) toward(f, g, loop int) api.String {
	left := f < g
	// The left string of a right hand is the far one.
	return api.String{Finger: g, Loop: loop, Far: left == h.frame.Fingers[g-1].Right}
}

// aim returns the operation that picks what another one takes, along the route.
func (h *hands) aim(op api.Op) (api.Op, api.Errno) {
	route, e := h.route(op.Finger, op.From)
	if e != api.OK {
		return api.Op{}, e
	}
	pick := api.Op{Kind: api.OpPick, Finger: op.Finger, From: op.From}
	for _, name := range route {
		pick.Path = append(pick.Path, api.Step{At: name, Over: op.Over})
	}
	return pick, api.OK
}

// apply makes a move.
func (h *hands) apply(m api.Move) api.Errno {
	next, e := move.Apply(h.code, m)
	if e != api.OK {
		return e
	}
	h.code = next
	h.moves = append(h.moves, m)
	return api.OK
}

// follow makes moves, each of which is looked up in the code to which those before it have led.
func (h *hands) follow(moves ...func() api.Move) api.Errno {
	for _, next := range moves {
		if e := h.apply(next()); e != api.OK {
			return e
		}
	}
	return api.OK
}
