package way_test

import (
	"math/rand"
	"testing"

	"catscradle/api"
	"catscradle/code"
	"catscradle/hand"
	"catscradle/way"
)

// P8.6: a way from a code to itself is empty, whatever the rules are.
func TestWayToItself(t *testing.T) {
	r := rand.New(rand.NewSource(8))
	for _, s := range samples() {
		rules := randomRules(r)
		for _, b := range []api.Code{s.c, traveled(r, s.c)} {
			if ops, e := way.Way(s.fr, s.c, b, rules); e != api.OK || len(ops) > 0 {
				t.Errorf("%v, %v: %v, %d", s, rules, ops, e)
			}
		}
	}
}

// P8.6: after the first operation of a way, the rest is no longer than before; and with more depth, a way is found again.
func TestWayGoesOn(t *testing.T) {
	r := rand.New(rand.NewSource(9))
	found := 0
	for range 3 {
		for _, s := range samples() {
			rules := randomRules(r)
			b := goal(r, s, rules.Kinds)
			ops, e := way.Way(s.fr, s.c, b, rules)
			if e != api.OK {
				continue
			}
			deeper := rules
			deeper.Depth += 1 + r.Intn(5)
			again, e := way.Way(s.fr, s.c, b, deeper)
			if e != api.OK || !equalLists(again, ops) {
				t.Errorf("%v to %s, %v: %v, %d, not %v", s, code.Print(b), deeper, again, e, ops)
			}
			if len(ops) == 0 {
				continue
			}
			next, _, _ := hand.Do(s.fr, s.c, ops[0])
			if !hand.Posed(s.fr, next) {
				continue
			}
			rest, e := way.Way(s.fr, next, b, rules)
			if e == api.ErrOpen {
				continue
			}
			found++
			if e != api.OK || len(rest) > len(ops)-1 {
				t.Errorf("%v to %s, %v: %v, and then %v, %d", s, code.Print(b), rules, ops, rest, e)
			}
		}
	}
	if found < 50 {
		t.Errorf("only %d ways", found)
	}
}

// P8.6: a code of the film of a series is taught without a correction, at an index that is at least its own.
func TestTeachFilm(t *testing.T) {
	r := rand.New(rand.NewSource(10))
	for _, s := range samples() {
		ops := s.series(r, r.Intn(5))
		rules := randomRules(r)
		film := must[[]api.Code](t)(way.Film(s.fr, s.c, ops...))
		for i, c := range film {
			l, e := way.Teach(s.fr, s.c, traveled(r, c), rules, ops...)
			if e != api.OK || len(l.Ops) > 0 || l.At < i || l.Done != (l.At == len(ops)) {
				t.Errorf("%v, %v, code %d: %+v, %d", s, ops, i, l, e)
			}
		}
	}
}

// P0.2: what a way does is a list of elementary moves that lead there.
func TestWayByHand(t *testing.T) {
	r := rand.New(rand.NewSource(11))
	for _, s := range samples() {
		rules := randomRules(r)
		ops, e := way.Way(s.fr, s.c, goal(r, s, rules.Kinds), rules)
		if e != api.OK {
			continue
		}
		for i, c := range must[[]api.Code](t)(way.Film(s.fr, s.c, ops...)) {
			if i < len(ops) && !hand.Posed(s.fr, c) {
				t.Errorf("%v, %v: code %d is not posed", s, ops, i)
			}
		}
	}
}
