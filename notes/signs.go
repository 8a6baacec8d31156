package notes

import (
	"slices"
	"strings"

	"catscradle/api"
)

// Signs returns the items of operations.
func Signs(fr api.Frame, ops ...api.Op) (string, api.Errno) {
	return compose(signs{}, fr, ops)
}

// ReadSigns reads items.
func ReadSigns(fr api.Frame, s string) ([]api.Op, api.Errno) {
	return signs{}.read(fr, s)
}

// Can reports whether signs can say an operation.
func Can(fr api.Frame, op api.Op) (bool, api.Errno) {
	if !exist(fr, op) {
		return false, api.ErrArg
	}
	return says(signs{}, fr, op), api.OK
}

// short reports whether an operation names only fingers of person 1, and only whole strings of uppermost loops.
func short(fr api.Frame, op api.Op) bool {
	own := func(f int) bool { return fr.Fingers[f-1].Person == 1 }
	plain := func(s api.String) bool { return own(s.Finger) && s.Loop == 0 && s.Piece == 0 }
	nowhere := op.From == api.String{}
	return own(op.Finger) && (nowhere || plain(op.From)) && !slices.ContainsFunc(op.Path, func(s api.Step) bool { return !plain(s.At) })
}

// signs are the notation with an item for each operation.
type signs struct{}

func (signs) read(fr api.Frame, text string) ([]api.Op, api.Errno) {
	s, e := scan(fr, text)
	if e != api.OK {
		return nil, e
	}
	s.alone = true
	var ops []api.Op
	for more := text != ""; more; more = s.take(" ") {
		ops = append(ops, s.item())
	}
	if e := s.result(); e != api.OK {
		return nil, e
	}
	return ops, api.OK
}

func (signs) write(fr api.Frame, ops []api.Op) string {
	var items []string
	for _, op := range ops {
		items = append(items, item(fr, op))
	}
	return strings.Join(items, " ")
}

// item returns an operation in signs.
func item(fr api.Frame, op api.Op) string {
	head := name(fr, op.Finger) + spelling[op.Kind].mark
	switch op.Kind {
	case api.OpTwist:
		return head + letter(op.Over)
	case api.OpPick:
		return head + path(fr, op.Path) + end(fr, op.From)
	case api.OpTake:
		return head + end(fr, op.From) + letter(op.Over)
	case api.OpTransfer, api.OpExchange:
		return head + name(fr, op.From.Finger) + letter(op.Over)
	}
	return head
}

// path returns the steps of a path in signs, and the sign behind them, if there are any.
func path(fr api.Frame, steps []api.Step) string {
	if len(steps) == 0 {
		return ""
	}
	var l []string
	for _, step := range steps {
		l = append(l, end(fr, step.At)+letter(step.Over))
	}
	return strings.Join(l, ",") + spelling[api.OpPick].mark
}

// end returns a whole string of an uppermost loop in signs.
func end(fr api.Frame, s api.String) string {
	return name(fr, s.Finger) + either(s.Far, "f", "n")
}

func letter(over bool) string { return either(over, "o", "u") }

// item reads an operation in signs.
func (s *scanner) item() api.Op {
	op := api.Op{Finger: s.finger()}
	op.Kind = s.mark()
	switch op.Kind {
	case api.OpTwist:
		goto manner
	case api.OpPick:
		if s.pathAhead() {
			goto path
		}
		goto from
	case api.OpTake:
		goto from
	case api.OpTransfer, api.OpExchange:
		op.From.Finger = s.finger()
		goto manner
	}
	goto done
path:
	op.Path = append(op.Path, s.step())
	if s.take(",") {
		goto path
	}
	s.expect(spelling[api.OpPick].mark)
from:
	op.From = s.end()
	if op.Kind == api.OpPick {
		goto done
	}
manner:
	op.Over = s.either("o", "u")
done:
	return op
}

// mark reads the sign of a kind of operation.
func (s *scanner) mark() api.OpKind {
	for kind := api.OpRelease; kind <= api.OpDrop; kind++ {
		if s.take(spelling[kind].mark) {
			return kind
		}
	}
	s.fail()
	return 0
}

// pathAhead reports whether the item has the sign that comes behind a path.
func (s *scanner) pathAhead() bool {
	item, _, _ := strings.Cut(s.rest, " ")
	return strings.Contains(item, spelling[api.OpPick].mark)
}

// step reads a step of a path in signs.
func (s *scanner) step() api.Step {
	at := s.end()
	return api.Step{At: at, Over: s.either("o", "u")}
}

// end reads a whole string of an uppermost loop in signs.
func (s *scanner) end() api.String {
	f := s.finger()
	return api.String{Finger: f, Far: s.either("f", "n")}
}
