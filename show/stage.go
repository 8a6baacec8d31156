package show

import (
	"slices"

	"catscradle/api"
	"catscradle/code"
	"catscradle/hand"
)

// maxTogether is the greatest number of operations that are done together.
const maxTogether = 4

// stage is a frame, the string that its fingers hold, and how many loops each of them has.
type stage struct {
	api.Frame
	code  api.Code
	loops []int
}

// open returns the stage with a frame and a posed code, or what is wrong with these.
func open(fr api.Frame, c api.Code) (*stage, api.Errno) {
	loops, e := hand.Loops(fr, c)
	if e != api.OK {
		return nil, e
	}
	fr.Fingers = slices.Clone(fr.Fingers)
	return &stage{fr, copied(c), loops}, api.OK
}

// Persons returns the persons whose fingers have loops.
func Persons(fr api.Frame, c api.Code) ([]int, api.Errno) {
	s, e := open(fr, c)
	if e != api.OK {
		return nil, e
	}
	var persons []int
	for i, f := range s.Fingers {
		if s.loops[i] > 0 {
			persons = append(persons, f.Person)
		}
	}
	slices.Sort(persons)
	return slices.Compact(persons), api.OK
}

// Enter puts fingers on the axis.
func Enter(fr api.Frame, c api.Code, fingers []api.Finger, p api.Place) (api.Frame, api.Code, api.Errno) {
	s, e := open(fr, c)
	if e == api.OK {
		e = s.enter(fingers, p)
	}
	if e != api.OK {
		return api.Frame{}, api.Code{}, e
	}
	return s.Frame, s.code, api.OK
}

// enter puts fingers on the axis. With an error, the stage is of no more use.
func (s *stage) enter(fingers []api.Finger, p api.Place) api.Errno {
	if len(fingers) == 0 {
		return api.ErrArg
	}
	for _, f := range fingers {
		if f.Person != fingers[0].Person {
			return api.ErrArg
		}
		with, e := code.Insert(s.code, p)
		if e != api.OK {
			return e
		}
		s.code = with
		s.Fingers = slices.Insert(s.Fingers, p.Gate, f)
		p = api.Place{Gate: p.Gate + 1}
	}
	if !hand.Valid(s.Frame) {
		return api.ErrArg
	}
	if !hand.Posed(s.Frame, s.code) {
		return api.ErrMove
	}
	return api.OK
}

// Leave takes the fingers of a person away.
func Leave(fr api.Frame, c api.Code, person int) (api.Frame, api.Code, api.Errno) {
	s, e := open(fr, c)
	if e == api.OK {
		e = s.leave(person)
	}
	if e != api.OK {
		return api.Frame{}, api.Code{}, e
	}
	return s.Frame, s.code, api.OK
}

// leave takes the fingers of a person away. With an error, the stage is of no more use.
func (s *stage) leave(person int) api.Errno {
	isTheirs := func(f api.Finger) bool { return f.Person == person }
	if !slices.ContainsFunc(s.Fingers, isTheirs) {
		return api.ErrNone
	}
	for i, f := range slices.Backward(s.Fingers) {
		if !isTheirs(f) {
			continue
		}
		if s.loops[i] > 0 {
			return api.ErrReach
		}
		// The finger is one of the code, so there is no error.
		s.code, _ = code.Forget(s.code, i+1)
	}
	s.Fingers = slices.DeleteFunc(s.Fingers, isTheirs)
	return api.OK
}

// Together does operations of different hands together.
func Together(fr api.Frame, c api.Code, ops ...api.Op) (api.Code, api.Errno) {
	s, e := open(fr, c)
	if e == api.OK {
		e = s.together(ops)
	}
	if e != api.OK {
		return api.Code{}, e
	}
	return s.code, api.OK
}

// together does operations together. With an error, the stage is as it was.
func (s *stage) together(ops []api.Op) api.Errno {
	if !s.apart(ops) {
		return api.ErrArg
	}
	result, _, e := hand.Run(s.Frame, s.code, ops...)
	if e != api.OK {
		return e
	}
	order := slices.Clone(ops)
	// agree reports whether all orders whose first n operations are those of this one lead to the result.
	var agree func(n int) bool
	agree = func(n int) bool {
		if n == len(order) {
			other, _, e := hand.Run(s.Frame, s.code, order...)
			same, _ := code.Same(other, result)
			return e == api.OK && same
		}
		for i := n; i < len(order); i++ {
			order[n], order[i] = order[i], order[n]
			if !agree(n + 1) {
				return false
			}
			order[n], order[i] = order[i], order[n]
		}
		return true
	}
	if !agree(0) {
		return api.ErrReach
	}
	s.code = result
	return api.OK
}

// apart reports whether operations are not too many, and belong to different hands.
func (s *stage) apart(ops []api.Op) bool {
	if len(ops) > maxTogether {
		return false
	}
	var hands []api.Finger
	for _, op := range ops {
		if op.Finger < 1 || op.Finger > len(s.Fingers) {
			return false
		}
		// Fingers of one hand differ in their digits only.
		h := s.Fingers[op.Finger-1]
		h.Digit = 0
		if slices.Contains(hands, h) {
			return false
		}
		hands = append(hands, h)
	}
	return true
}

// Play performs acts one after the other.
func Play(fr api.Frame, c api.Code, acts ...api.Act) (api.Frame, api.Code, int, api.Errno) {
	s, e := open(fr, c)
	if e != api.OK {
		return api.Frame{}, api.Code{}, 0, e
	}
	for i, act := range acts {
		if e := s.perform(act); e != api.OK {
			return api.Frame{}, api.Code{}, i, e
		}
	}
	return s.Frame, s.code, len(acts), api.OK
}

// perform performs an act. With an error, the stage is of no more use.
func (s *stage) perform(act api.Act) api.Errno {
	if !understood(act) {
		return api.ErrArg
	}
	var e api.Errno
	// The string can be off all fingers, so each act examines the stage anew.
	switch act.Kind {
	case api.ActDo:
		s.code, e = Together(s.Frame, s.code, act.Ops...)
	case api.ActEnter:
		s.Frame, s.code, e = Enter(s.Frame, s.code, act.Fingers, act.At)
	case api.ActLeave:
		s.Frame, s.code, e = Leave(s.Frame, s.code, act.Person)
	}
	return e
}

// understood reports whether an act has a kind that exists, and no fields that its kind does not use.
func understood(act api.Act) bool {
	noOps, noFingers := len(act.Ops) == 0, len(act.Fingers) == 0
	nowhere, nobody := act.At == api.Place{}, act.Person == 0
	switch act.Kind {
	case api.ActDo:
		return noFingers && nowhere && nobody
	case api.ActEnter:
		return noOps && nobody
	case api.ActLeave:
		return noOps && noFingers && nowhere
	}
	return false
}
