package notes

import (
	"strings"

	"catscradle/api"
	"catscradle/hand"
)

const (
	maxText   = 8000 // bytes of a string that is read
	maxDigits = 9    // digits of a decimal number
)

// scanner reads a string from the front. Where it meets what is not of the notation, it drops the rest, so that no loop goes on.
type scanner struct {
	frame  api.Frame
	rest   string
	alone  bool // whether the notation has only the fingers of person 1
	wrong  bool // whether the string is not one of the notation
	absent bool // whether it names a finger that the frame does not have
}

// scan returns a scanner for a string.
func scan(fr api.Frame, text string) (*scanner, api.Errno) {
	switch {
	case !hand.Valid(fr):
		return nil, api.ErrArg
	case len(text) > maxText:
		return nil, api.ErrLong
	}
	return &scanner{frame: fr, rest: text}, api.OK
}

// result returns what is wrong with the string, when all has been read that should be there.
func (s *scanner) result() api.Errno {
	switch {
	case s.wrong || s.rest != "":
		return api.ErrText
	case s.absent:
		return api.ErrNone
	}
	return api.OK
}

func (s *scanner) fail() { s.wrong, s.rest = true, "" }

// take reads a text, if it comes next.
func (s *scanner) take(text string) bool {
	rest, found := strings.CutPrefix(s.rest, text)
	s.rest = rest
	return found
}

// expect reads a text, which must come next.
func (s *scanner) expect(text string) {
	if !s.take(text) {
		s.fail()
	}
}

// either reads one of two texts, one of which must come next, and reports whether it is the first one.
func (s *scanner) either(yes, no string) bool {
	if s.take(yes) {
		return true
	}
	s.expect(no)
	return false
}

// number reads a decimal number that is not zero. After nine digits it stops: no notation has a digit next.
func (s *scanner) number() int {
	n, digits := 0, 0
	for _, r := range s.rest {
		if r < '0' || r > '9' || digits == maxDigits {
			break
		}
		n = 10*n + int(r-'0')
		digits++
	}
	if digits == 0 || s.rest[0] == '0' {
		s.fail()
		return 0
	}
	s.rest = s.rest[digits:]
	return n
}

// named reads the name of a finger, if one comes next, and returns the number of the finger, 0 if the frame does not have it.
func (s *scanner) named() (int, bool) {
	// A name has three characters if it begins with a person.
	for length := 2; length <= min(3, len(s.rest)); length++ {
		f, e := hand.ParseName(s.rest[:length])
		if e != api.OK || s.alone && f.Person != 1 {
			continue
		}
		s.rest = s.rest[length:]
		index := hand.Index(s.frame, f)
		s.absent = s.absent || index == 0
		return index, true
	}
	return 0, false
}

// finger reads the name of a finger, which must come next.
func (s *scanner) finger() int {
	f, found := s.named()
	if !found {
		s.fail()
	}
	return f
}
