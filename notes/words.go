package notes

import (
	"strconv"
	"strings"

	"catscradle/api"
)

// Words returns the line of an operation.
func Words(fr api.Frame, op api.Op) (string, api.Errno) {
	text, e := Lines(fr, op)
	return strings.TrimSuffix(text, "\n"), e
}

// ReadWords reads a line.
func ReadWords(fr api.Frame, s string) (api.Op, api.Errno) {
	from, e := scan(fr, s)
	if e != api.OK {
		return api.Op{}, e
	}
	op := from.line()
	if e := from.result(); e != api.OK {
		return api.Op{}, e
	}
	return op, api.OK
}

// Lines returns the lines of operations.
func Lines(fr api.Frame, ops ...api.Op) (string, api.Errno) {
	return compose(words{}, fr, ops)
}

// ReadLines reads lines.
func ReadLines(fr api.Frame, s string) ([]api.Op, int, api.Errno) {
	if _, e := scan(fr, s); e != api.OK {
		return nil, 0, e
	}
	var ops []api.Op
	for s != "" {
		line, rest, ended := strings.Cut(s, "\n")
		op, e := ReadWords(fr, line)
		if !ended {
			e = api.ErrText
		}
		if e != api.OK {
			return nil, len(ops), e
		}
		ops = append(ops, op)
		s = rest
	}
	return ops, len(ops), api.OK
}

// words are the notation with a line for each operation.
type words struct{}

func (words) read(fr api.Frame, text string) ([]api.Op, api.Errno) {
	ops, _, e := ReadLines(fr, text)
	return ops, e
}

func (words) write(fr api.Frame, ops []api.Op) string {
	var b strings.Builder
	for _, op := range ops {
		b.WriteString(line(fr, op))
		b.WriteByte('\n')
	}
	return b.String()
}

// line returns an operation in words.
func line(fr api.Frame, op api.Op) string {
	l := []string{spelling[op.Kind].verb, name(fr, op.Finger)}
	for _, step := range op.Path {
		l = append(l, manner(step.Over), described(fr, step.At)+",")
	}
	switch op.Kind {
	case api.OpPick, api.OpTake:
		l = append(l, spelling[op.Kind].link, described(fr, op.From))
	case api.OpTransfer, api.OpExchange:
		l = append(l, spelling[op.Kind].link, name(fr, op.From.Finger))
	}
	switch op.Kind {
	case api.OpTwist, api.OpTake, api.OpTransfer, api.OpExchange:
		l = append(l, manner(op.Over))
	}
	return strings.Join(l, " ")
}

func manner(over bool) string { return either(over, "over", "under") }

// described returns a string of the code in words.
func described(fr api.Frame, s api.String) string {
	text := name(fr, s.Finger) + either(s.Far, " far", " near")
	if s.Loop != 0 {
		text += " loop " + strconv.Itoa(s.Loop)
	}
	if s.Piece != 0 {
		text += " piece " + strconv.Itoa(s.Piece)
	}
	return text
}

// line reads an operation in words.
func (s *scanner) line() api.Op {
	op := api.Op{Kind: s.verb()}
	op.Finger = s.finger()
	switch op.Kind {
	case api.OpPick:
		goto path
	case api.OpTake, api.OpTransfer, api.OpExchange:
		goto from
	case api.OpTwist:
		goto manner
	}
	goto done
path:
	if over := s.take(" over "); over || s.take(" under ") {
		op.Path = append(op.Path, api.Step{At: s.described(), Over: over})
		s.expect(",")
		goto path
	}
from:
	s.expect(" " + spelling[op.Kind].link + " ")
	switch op.Kind {
	case api.OpPick:
		op.From = s.described()
		goto done
	case api.OpTake:
		op.From = s.described()
	default:
		op.From.Finger = s.finger()
	}
manner:
	op.Over = s.either(" over", " under")
done:
	return op
}

// verb reads the word of a kind of operation and the space behind it.
func (s *scanner) verb() api.OpKind {
	for kind := api.OpRelease; kind <= api.OpDrop; kind++ {
		if s.take(spelling[kind].verb + " ") {
			return kind
		}
	}
	s.fail()
	return 0
}

// described reads a string of the code in words.
func (s *scanner) described() api.String {
	l := api.String{Finger: s.finger()}
	l.Far = s.either(" far", " near")
	if s.take(" loop ") {
		l.Loop = s.number()
	}
	if s.take(" piece ") {
		l.Piece = s.number()
	}
	return l
}
