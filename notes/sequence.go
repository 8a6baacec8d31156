package notes

import (
	"iter"
	"slices"
	"strconv"
	"strings"

	"catscradle/api"
	"catscradle/code"
	"catscradle/hand"
)

// bare is the sequence of the bare loop.
const bare = "bare"

// Sequence returns the sequence of a posed code.
func Sequence(fr api.Frame, c api.Code) (string, api.Errno) {
	counts, e := hand.Loops(fr, c)
	if e != api.OK {
		return "", e
	}
	if len(c.Letters) == 0 {
		return bare, api.OK
	}
	var items []string
	down := false
	for i, l := range c.Letters {
		if l.Kind == api.Cross {
			items = append(items, strconv.Itoa(l.ID)+letter(l.Over))
			continue
		}
		down = !down
		if down {
			items = append(items, loop(fr, counts, l, c.Letters[i+1]))
		}
	}
	return strings.Join(items, " "), api.OK
}

// loop returns the item of a loop with two passes.
func loop(fr api.Frame, counts []int, first, second api.Letter) string {
	rightwards := first.Gate < second.Gate
	right := first
	if rightwards {
		right = second
	}
	f := right.Gate
	// The right passes of a finger come first in their gate, the innermost one at the left.
	number := counts[f-1] + 1 - right.Rank
	return name(fr, f) + "." + strconv.Itoa(number) + either(rightwards, ">", "<")
}

// ReadSequence returns the codes of a sequence.
func ReadSequence(fr api.Frame, s string) ([]api.Code, api.Errno) {
	from, e := scan(fr, s)
	if e != api.OK {
		return nil, e
	}
	parts := from.parts()
	if e := from.result(); e != api.OK {
		return nil, e
	}
	if !numbered(parts) {
		return nil, api.ErrCode
	}
	c := api.Code{Fingers: len(fr.Fingers), Letters: letters(parts)}
	if code.Crossings(c) > api.MaxBracket || len(c.Letters) > api.MaxLetters {
		return nil, api.ErrLong
	}
	codes := slices.Collect(signed(fr, c))
	if len(codes) == 0 {
		return nil, api.ErrCode
	}
	return codes, api.OK
}

// Signless returns how many codes the sequence of a code has.
func Signless(fr api.Frame, c api.Code) (int, api.Errno) {
	if _, e := hand.Loops(fr, c); e != api.OK {
		return 0, e
	}
	if code.Crossings(c) > api.MaxBracket {
		return 0, api.ErrLong
	}
	n := 0
	for range signed(fr, c) {
		n++
	}
	return n, api.OK
}

// signed yields the posed codes that differ from a code at most in the signs of its crossings, in the order of the lists of these.
func signed(fr api.Frame, c api.Code) iter.Seq[api.Code] {
	return func(yield func(api.Code) bool) {
		n := code.Crossings(c)
		attempt := api.Code{Fingers: c.Fingers, Letters: slices.Clone(c.Letters)}
		for choice := range 1 << n {
			for i, l := range attempt.Letters {
				if l.Kind == api.Cross {
					// The first crossing has the highest bit, so that its sign changes last.
					attempt.Letters[i].Sign = 2*(choice>>(n-l.ID)&1) - 1
				}
			}
			if hand.Posed(fr, attempt) && !yield(api.Code{Fingers: c.Fingers, Letters: slices.Clone(attempt.Letters)}) {
				return
			}
		}
	}
}

// part is an item of a sequence: a loop of a finger, or a visit of a crossing.
type part struct {
	cross  bool
	finger int  // of a loop
	number int  // of the loop or of the crossing
	ahead  bool // whether the left pass of the loop comes first, or the visit is over
}

// parts reads a sequence.
func (s *scanner) parts() []part {
	if s.take(bare) {
		return nil
	}
	var l []part
	for more := true; more; more = s.take(" ") {
		l = append(l, s.part())
	}
	if l[0].cross {
		s.fail()
	}
	return l
}

// part reads an item of a sequence.
func (s *scanner) part() part {
	f, found := s.named()
	p := part{cross: !found, finger: f}
	if found {
		s.expect(".")
	}
	p.number = s.number()
	if found {
		p.ahead = s.either(">", "<")
	} else {
		p.ahead = s.either("o", "u")
	}
	return p
}

// numbered reports whether the loops of each finger have the numbers from 1 on, each once, and the crossings too, each of them once over and once under.
func numbered(parts []part) bool {
	counts := map[int]int{}
	for _, p := range parts {
		counts[p.finger]++
	}
	met := map[part]bool{}
	for _, p := range parts {
		most := counts[p.finger]
		if p.cross {
			most /= 2
		} else {
			p.ahead = false
		}
		// As many parts as there are numbers for them, all different, have all of these numbers.
		if p.number > most || met[p] {
			return false
		}
		met[p] = true
	}
	return true
}

// letters returns the letters of parts that are numbered, with crossings that have no signs yet.
func letters(parts []part) []api.Letter {
	counts := map[int]int{}
	for _, p := range parts {
		if !p.cross {
			counts[p.finger]++
		}
	}
	var l []api.Letter
	for _, p := range parts {
		if p.cross {
			l = append(l, api.Letter{Kind: api.Cross, ID: p.number, Over: p.ahead})
			continue
		}
		f := p.finger
		passes := []api.Letter{
			{Kind: api.Pass, Gate: f - 1, Rank: counts[f-1] + p.number},
			{Kind: api.Pass, Gate: f, Rank: counts[f] + 1 - p.number},
		}
		if !p.ahead {
			slices.Reverse(passes)
		}
		l = append(l, passes...)
	}
	return l
}
