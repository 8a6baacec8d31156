package way_test

import (
	"math/rand"
	"testing"

	"catscradle/api"
	"catscradle/code"
	"catscradle/ease"
	"catscradle/hand"
	"catscradle/way"
)

// P8.3: ways worked out by hand.
func TestWayExamples(t *testing.T) {
	fr := standard(t)
	three := frame(t, "L1", "L2", "R1")
	const thumbs = "10: 0.1 1.1 9.1 10.1"
	for _, c := range []struct {
		fr   api.Frame
		a, b string
		r    api.Rules
		want string
		e    api.Errno
	}{
		{fr, thumbs, "10: 0.1 1.1", rules(2, api.OpRelease), "release R1", api.OK},
		{fr, thumbs, "10:", rules(2, api.OpRelease), "release L1; release R1", api.OK},
		{fr, thumbs, "10:", rules(1, api.OpRelease), "", api.ErrNone},
		{fr, thumbs, "10: 1.1 2.1", rules(2, api.OpRelease), "", api.ErrNone},
		{fr, "10: 0.1 1.1 1.2 2.1 2.2 3.1 3.2 4.1 4.2 5.1 9.1 10.1", "10: 9.1 10.1", rules(6, api.OpRelease), "release L1; release L2; release L3; release L4; release L5", api.OK},
		{fr, thumbs, thumbs, rules(0), "", api.OK},
		{fr, thumbs, "10: 10.1 9.1 1.1 0.1", rules(0), "", api.OK},
		// The goal need not be posed, and slack does not matter.
		{fr, thumbs, "10: 0.1 1.1 4.1 4.2 9.1 10.1", rules(0), "", api.OK},
		{fr, thumbs, "10: 0.1 1o+ 1u+ 1.1", rules(1, api.OpRelease), "release R1", api.OK},
		{fr, thumbs, "10: 4.1 4.2", rules(2, api.OpRelease), "release L1; release R1", api.OK},
		// A twist is turned back by one to the other side.
		{fr, "10: 1.1 0.1 1u+ 9.1 10.1 1o+", thumbs, rules(1, api.OpTwist), "twist L1 under", api.OK},
		{fr, thumbs, "10: 1.1 0.1 1u+ 9.1 10.1 1o+", rules(1, api.OpTwist), "twist L1 over", api.OK},
		{three, "3: 0.1 1.1 2.1 3.1", "3: 0.1 1.1 1.2 2.1 2.2 3.1", rules(1, api.OpTake), "take L2 from L1 far loop 1 under", api.OK},
		{three, "3: 0.1 1.2 1.1 0.2 2.1 3.1", "3: 1.1 0.1 1u+ 2.1 3.1 1o+", rules(2, api.OpNavaho), "navaho L1", api.OK},
		{three, "3: 0.1 1.2 1.1 0.2 2.1 3.1", "3: 0.1 1.1 2.1 3.1", rules(2, api.OpNavaho), "", api.ErrNone},
		{three, "3: 0.1 1.2 1.1 0.2 2.1 3.1", "3: 0.1 1.1 2.1 3.1", rules(2, all()...), "release L1", api.OK},
	} {
		got, e := way.Way(c.fr, read(t, c.a), read(t, c.b), c.r)
		if e != c.e || inWords(t, c.fr, got) != c.want {
			t.Errorf("%s to %s: %s, %d", c.a, c.b, inWords(t, c.fr, got), e)
		}
	}
}

// P8.3: a way that is not found: it is open whether there is one, if the search was cut off or a form is not whole.
func TestWayOpen(t *testing.T) {
	fr := frame(t, "L1", "L2", "R1")
	two, twisted := read(t, "3: 0.1 1.1 1.2 2.1"), read(t, "3: 1.1 0.1 1u+ 1.2 2.1 1o+")
	if f := must[api.Form](t)(ease.Make(twisted, 1)); f.Whole {
		t.Fatal("one code only")
	}
	r := func(nodes, limit int, kinds ...api.OpKind) api.Rules {
		return api.Rules{Kinds: kinds, Depth: 2, Nodes: nodes, Limit: limit}
	}
	bare, elsewhere := api.Code{Fingers: 3}, read(t, "3: 2.1 3.1")
	for i, c := range []struct {
		a, b api.Code
		r    api.Rules
		want string
		e    api.Errno
	}{
		{two, bare, r(4, 1, api.OpRelease), "L1- L2-", api.OK},
		{two, bare, r(3, 1, api.OpRelease), "", api.ErrOpen},
		{two, elsewhere, r(4, 1, api.OpRelease), "", api.ErrNone},
		{two, elsewhere, r(3, 1, api.OpRelease), "", api.ErrOpen},
		{two, elsewhere, r(1, 1, api.OpNavaho), "", api.ErrNone},
		{two, two, r(1, 1, all()...), "", api.OK},
		{two, elsewhere, r(1, 1, all()...), "", api.ErrOpen},
		// The form of the goal.
		{two, twisted, r(4, 1, api.OpRelease), "", api.ErrOpen},
		{two, twisted, r(4, 100, api.OpRelease), "", api.ErrNone},
		// The form of a code that was tested.
		{twisted, two, r(100, 1), "", api.ErrOpen},
		{twisted, two, r(100, 100), "", api.ErrNone},
		{twisted, bare, r(100, 1, api.OpRelease), "L1- L2-", api.OK},
	} {
		got, e := way.Way(fr, c.a, c.b, c.r)
		if e != c.e || inSigns(t, fr, got) != c.want {
			t.Errorf("case %d: %s, %d", i, inSigns(t, fr, got), e)
		}
	}
}

// goal returns a code to which choices under some kinds may lead, with slack, or another one.
func goal(r *rand.Rand, s scene, kinds []api.OpKind) api.Code {
	if r.Intn(5) == 0 {
		var fingers []int
		for f := range s.fr.Fingers {
			if r.Intn(2) == 0 {
				fingers = append(fingers, f+1)
			}
		}
		c, _ := hand.Hang(s.fr, fingers...)
		return c
	}
	for range r.Intn(4) {
		if op, ok := s.choice(r, kinds...); ok {
			s.c, _, _ = hand.Do(s.fr, s.c, op)
		}
	}
	return traveled(r, shaken(r, s.c))
}

// P8.3: Way returns the operations of the first code of the search that reaches the goal; they lead there, and no shorter list of choices does.
func TestWay(t *testing.T) {
	r := rand.New(rand.NewSource(4))
	errors, lengths := map[api.Errno]int{}, map[int]int{}
	for range 3 {
		for _, s := range samples() {
			rules := randomRules(r)
			b := goal(r, s, rules.Kinds)
			want, _, f := slowSeek(s.fr, s.c, rules, []api.Code{b})
			got, e := way.Way(s.fr, s.c, b, rules)
			if e != f || !equalLists(got, want) {
				t.Fatalf("%v to %s, %v: %s, %d, not %s, %d", s, code.Print(b), rules, inWords(t, s.fr, got), e, inWords(t, s.fr, want), f)
			}
			errors[e]++
			lengths[len(got)]++
			switch {
			case e == api.OK:
				end, _, _ := hand.Run(s.fr, s.c, got...)
				if !reaches(end, rules.Limit, []api.Code{b}) {
					t.Errorf("%v to %s: the way leads to %s", s, code.Print(b), code.Print(end))
				}
				if len(got) > 0 && small(s, rules, len(got)-1) && reachable(s.fr, s.c, rules, len(got)-1, []api.Code{b}) {
					t.Errorf("%v to %s: there is a shorter way than %s", s, code.Print(b), inWords(t, s.fr, got))
				}
			case e == api.ErrNone && small(s, rules, rules.Depth) && reachable(s.fr, s.c, rules, rules.Depth, []api.Code{b}):
				t.Errorf("%v to %s: there is a way", s, code.Print(b))
			}
		}
	}
	if errors[api.OK] < 100 || errors[api.ErrNone] < 50 || errors[api.ErrOpen] < 50 || lengths[1] < 30 || lengths[2] < 15 || lengths[3] == 0 {
		t.Error(errors, lengths)
	}
}

// small reports whether there are so few lists of n choices that all of them can be tried.
func small(s scene, r api.Rules, n int) bool {
	lists := 1
	for range n {
		lists *= 1 + len(slowChoices(s.fr, s.c, r.Kinds))
	}
	return lists < 300
}
