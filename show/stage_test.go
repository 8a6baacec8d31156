package show_test

import (
	"math"
	"math/rand"
	"slices"
	"testing"

	"catscradle/api"
	"catscradle/code"
	"catscradle/hand"
	"catscradle/show"
)

// two returns the stage of the chapter's examples: loops on both thumbs, side by side.
func two(t *testing.T) scene {
	t.Helper()
	return scene{frame(t, "L1", "R1"), read(t, "2: 0.1 1.1 1.2 2.1")}
}

// P9.6: persons worked out by hand.
func TestPersonsExamples(t *testing.T) {
	fr := frame(t, "3L1", "L1", "2R2", "3R1", "L2")
	for _, x := range []struct {
		hung []int
		want []int
	}{
		{nil, nil},
		{[]int{1}, []int{3}},
		{[]int{1, 2}, []int{1, 3}},
		{[]int{1, 2, 3, 4, 5}, []int{1, 2, 3}},
		{[]int{2, 5}, []int{1}},
		{[]int{3, 4}, []int{2, 3}},
	} {
		got, e := show.Persons(fr, must[api.Code](t)(hand.Hang(fr, x.hung...)))
		if e != api.OK || !slices.Equal(got, x.want) {
			t.Errorf("%v: %v, %d, not %v", x.hung, got, e, x.want)
		}
	}
}

// P9.6: the examples of the chapter.
func TestStageExamples(t *testing.T) {
	s := two(t)
	if l, e := show.Persons(s.fr, s.c); e != api.OK || !slices.Equal(l, []int{1}) {
		t.Error(l, e)
	}
	if _, _, e := show.Leave(s.fr, s.c, 1); e != api.ErrReach {
		t.Error(e)
	}
	if _, _, e := show.Leave(s.fr, s.c, 2); e != api.ErrNone {
		t.Error(e)
	}
	if _, _, e := show.Enter(s.fr, s.c, fingers(t, "2L1"), api.Place{Gate: 0, Left: 1}); e != api.ErrMove {
		t.Error(e)
	}
}

// P9.6: Persons are those of whom a finger has a loop.
func TestPersons(t *testing.T) {
	most := 0
	for _, s := range scenes() {
		loops := must[[]int](t)(hand.Loops(s.fr, s.c))
		var want []int
		for person := 1; person <= 9; person++ {
			for i, f := range s.fr.Fingers {
				if f.Person == person && loops[i] > 0 {
					want = append(want, person)
					break
				}
			}
		}
		if got, e := show.Persons(s.fr, s.c); e != api.OK || !slices.Equal(got, want) {
			t.Errorf("%v: %v, %d, not %v", s, got, e, want)
		}
		most = max(most, len(want))
	}
	if most < 3 {
		t.Error("few persons")
	}
}

// P9.6: fingers that enter, and persons that leave, worked out by hand.
func TestEnterExamples(t *testing.T) {
	s := two(t)
	for _, x := range []struct {
		names []string
		p     api.Place
		want  []string
		c     string
	}{
		{[]string{"2L1"}, api.Place{Gate: 1, Left: 1}, []string{"L1", "2L1", "R1"}, "3: 0.1 1.1 2.1 3.1"},
		{[]string{"2R5", "2L1"}, api.Place{Gate: 1, Left: 1}, []string{"L1", "2R5", "2L1", "R1"}, "4: 0.1 1.1 3.1 4.1"},
		{[]string{"2L1"}, api.Place{}, []string{"2L1", "L1", "R1"}, "3: 1.1 2.1 2.2 3.1"},
		{[]string{"L2", "R2", "R3"}, api.Place{Gate: 2, Left: 1}, []string{"L1", "R1", "L2", "R2", "R3"}, "5: 0.1 1.1 1.2 2.1"},
	} {
		fr, c, e := show.Enter(s.fr, s.c, fingers(t, x.names...), x.p)
		if e != api.OK || !equalFrames(fr, frame(t, x.want...)) || code.Print(c) != x.c {
			t.Errorf("%v at %v: %v, %s, %d", x.names, x.p, fr, code.Print(c), e)
		}
	}
	fr := frame(t, "2L1", "L1", "2R2", "R1", "2R0")
	for _, x := range []struct {
		c      string
		person int
		want   []string
		then   string
		e      api.Errno
	}{
		{"5: 1.1 2.1 3.1 4.1", 2, []string{"L1", "R1"}, "2: 0.1 1.1 1.2 2.1", api.OK},
		{"5: 0.1 1.1 2.1 3.1 4.1 5.1", 1, []string{"2L1", "2R2", "2R0"}, "3: 0.1 1.1 1.2 2.1 2.2 3.1", api.OK},
		{"5:", 1, []string{"2L1", "2R2", "2R0"}, "3:", api.OK},
		{"5: 0.1 1.1 1.2 2.1", 1, nil, "", api.ErrReach},
		{"5: 0.1 1.1 1.2 2.1", 2, nil, "", api.ErrReach},
		{"5: 4.1 5.1", 2, nil, "", api.ErrReach},
		{"5: 4.1 5.1", 3, nil, "", api.ErrNone},
		{"5: 4.1 5.1", 0, nil, "", api.ErrNone},
		{"5: 4.1 5.1", math.MinInt, nil, "", api.ErrNone},
		{"5: 4.1 5.1", math.MaxInt, nil, "", api.ErrNone},
	} {
		got, c, e := show.Leave(fr, read(t, x.c), x.person)
		if e != x.e || e == api.OK && (!equalFrames(got, frame(t, x.want...)) || code.Print(c) != x.then) {
			t.Errorf("%s, %d: %v, %s, %d", x.c, x.person, got, code.Print(c), e)
		}
		if e != api.OK && (!equalFrames(got, api.Frame{}) || !equal(c, api.Code{})) {
			t.Errorf("%s, %d: %v, %s with an error", x.c, x.person, got, code.Print(c))
		}
	}
}

// crowd returns a frame with n fingers, none of which belong to the persons 7 to 9.
func crowd(n int) api.Frame {
	fr := api.Frame{Reach: 1, Loops: 1}
	for i := range n {
		fr.Fingers = append(fr.Fingers, api.Finger{Person: 1 + i/14, Right: i%2 == 0, Digit: i / 2 % 7})
	}
	return fr
}

// P9.6: the errors of Enter, in their order.
func TestEnterErrors(t *testing.T) {
	s := two(t)
	free := api.Place{Gate: 1, Left: 1}
	person := func(persons ...int) []api.Finger {
		var l []api.Finger
		for i, person := range persons {
			l = append(l, api.Finger{Person: person, Digit: i})
		}
		return l
	}
	many := slices.Repeat([]api.Finger{{Person: 9}}, 10000)
	for i, x := range []struct {
		s       scene
		fingers []api.Finger
		p       api.Place
		want    api.Errno
	}{
		{s, nil, free, api.ErrArg},
		{s, nil, api.Place{Gate: 1}, api.ErrArg},
		{s, person(2, 3), free, api.ErrArg},
		{s, person(2, 2, 3), free, api.ErrArg},
		{s, person(2, 3), api.Place{Gate: 1}, api.ErrArg},
		{s, person(2), api.Place{Gate: 0, Left: 2}, api.ErrArg},
		{s, person(2), api.Place{Gate: 1, Left: 3}, api.ErrArg},
		{s, person(2), api.Place{Gate: 3}, api.ErrArg},
		{s, person(2), api.Place{Gate: -1}, api.ErrArg},
		{s, person(2), api.Place{Gate: 1, Left: -1}, api.ErrArg},
		{s, person(2), api.Place{Gate: math.MaxInt}, api.ErrArg},
		{s, person(2), api.Place{Gate: 1, Left: math.MaxInt}, api.ErrArg},
		{s, person(2), api.Place{Gate: math.MinInt, Left: math.MinInt}, api.ErrArg},
		{s, person(0), free, api.ErrArg},
		{s, person(10), free, api.ErrArg},
		{s, person(-1), free, api.ErrArg},
		{s, person(10), api.Place{Gate: 1}, api.ErrArg},
		{s, []api.Finger{{Person: 2, Digit: 7}}, free, api.ErrArg},
		{s, []api.Finger{{Person: 2, Digit: -1}}, free, api.ErrArg},
		{s, []api.Finger{{Person: 2}, {Person: 2}}, free, api.ErrArg},
		{s, []api.Finger{{Person: 2}, {Person: 2}}, api.Place{Gate: 1}, api.ErrArg},
		{s, []api.Finger{{Person: 1, Digit: 1}}, free, api.ErrArg},
		{s, []api.Finger{{Person: 1, Digit: 2}, {Person: 1, Right: true, Digit: 1}}, free, api.ErrArg},
		{s, many, free, api.ErrArg},
		{s, person(2), api.Place{Gate: 0, Left: 1}, api.ErrMove},
		{s, person(2), api.Place{Gate: 1}, api.ErrMove},
		{s, person(2), api.Place{Gate: 1, Left: 2}, api.ErrMove},
		{s, person(2), api.Place{Gate: 2}, api.ErrMove},
		{s, person(2, 2), api.Place{Gate: 2}, api.ErrMove},
		{s, person(2), api.Place{Gate: 2, Left: 1}, api.OK},
		{scene{crowd(39), api.Code{Fingers: 39}}, person(9), api.Place{Gate: 17}, api.OK},
		{scene{crowd(39), api.Code{Fingers: 39}}, person(9, 9), api.Place{Gate: 17}, api.ErrArg},
		{scene{crowd(40), api.Code{Fingers: 40}}, person(9), api.Place{Gate: 17}, api.ErrArg},
		{scene{crowd(40), api.Code{Fingers: 40}}, person(9), api.Place{Gate: 41}, api.ErrArg},
	} {
		fr, c, e := show.Enter(x.s.fr, x.s.c, x.fingers, x.p)
		if e != x.want || e != api.OK && (!equalFrames(fr, api.Frame{}) || !equal(c, api.Code{})) {
			t.Errorf("case %d: %v, %s, %d, not %d", i, fr, code.Print(c), e, x.want)
		}
	}
}

// item is what stands on the axis: a finger, or else the pass with an index.
type item struct {
	finger api.Finger
	pass   int
}

func (i item) isFinger() bool { return i.finger.Person > 0 }

// axis returns what stands on the axis of a scene, from left to right.
func (s scene) axis() []item {
	var all []item
	for gate := range s.c.Fingers + 1 {
		if gate > 0 {
			all = append(all, item{finger: s.fr.Fingers[gate-1]})
		}
		for rank := 1; ; rank++ {
			i := slices.Index(s.c.Letters, api.Letter{Kind: api.Pass, Gate: gate, Rank: rank})
			if i < 0 {
				break
			}
			all = append(all, item{pass: i})
		}
	}
	return all
}

// on returns the scene with other fingers on the axis, between the same passes.
func (s scene) on(axis []item) scene {
	result := scene{s.fr, copied(s.c)}
	result.fr.Fingers = nil
	rank := 0
	for _, i := range axis {
		rank++
		if i.isFinger() {
			result.fr.Fingers = append(result.fr.Fingers, i.finger)
			rank = 0
			continue
		}
		result.c.Letters[i.pass].Gate, result.c.Letters[i.pass].Rank = len(result.fr.Fingers), rank
	}
	result.c.Fingers = len(result.fr.Fingers)
	return result
}

// spot returns the index on the axis of what comes next to the right of a place.
func spot(axis []item, p api.Place) int {
	gate, left := 0, 0
	for i, it := range axis {
		if gate == p.Gate && left == p.Left {
			return i
		}
		left++
		if it.isFinger() {
			gate, left = gate+1, 0
		}
	}
	return len(axis)
}

// places returns all places of a scene.
func (s scene) places() []api.Place {
	var l []api.Place
	var p api.Place
	for _, i := range s.axis() {
		l = append(l, p)
		p.Left++
		if i.isFinger() {
			p = api.Place{Gate: p.Gate + 1}
		}
	}
	return append(l, p)
}

// newFingers returns some fingers of person 7, whom no scene has.
func newFingers(r *rand.Rand) []api.Finger {
	var l []api.Finger
	for _, digit := range r.Perm(7)[:1+r.Intn(3)] {
		l = append(l, api.Finger{Person: 7, Right: r.Intn(2) == 0, Digit: digit})
	}
	return l
}

// P9.6: fingers that enter stand at the place, between the same passes, and can leave again.
func TestEnter(t *testing.T) {
	r := rand.New(rand.NewSource(9))
	done, not := 0, 0
	for _, s := range scenes() {
		for _, p := range s.places() {
			l := newFingers(r)
			axis := s.axis()
			at := spot(axis, p)
			for i, f := range l {
				axis = slices.Insert(axis, at+i, item{finger: f})
			}
			want := s.on(axis)
			fr, c, e := show.Enter(s.fr, s.c, l, p)
			if !hand.Posed(want.fr, want.c) {
				not++
				if e != api.ErrMove {
					t.Errorf("%v, %v at %v: %d", s, l, p, e)
				}
				continue
			}
			done++
			if e != api.OK || !equalFrames(fr, want.fr) || !equal(c, want.c) {
				t.Fatalf("%v, %v at %v: %v, %s, %d", s, l, p, fr, code.Print(c), e)
			}
			fr, c, e = show.Leave(fr, c, 7)
			if e != api.OK || !equalFrames(fr, s.fr) || !equal(c, s.c) {
				t.Fatalf("%v, %v at %v, and out: %v, %s, %d", s, l, p, fr, code.Print(c), e)
			}
		}
	}
	if done < 500 || not < 500 {
		t.Error(done, not)
	}
}

// P9.6: persons leave with all of their fingers, if none has a loop.
func TestLeave(t *testing.T) {
	counts := map[api.Errno]int{}
	for _, s := range scenes() {
		loops := must[[]int](t)(hand.Loops(s.fr, s.c))
		for person := range 5 {
			want := api.ErrNone
			for i, f := range s.fr.Fingers {
				if f.Person == person && want != api.ErrReach {
					want = api.OK
					if loops[i] > 0 {
						want = api.ErrReach
					}
				}
			}
			counts[want]++
			fr, c, e := show.Leave(s.fr, s.c, person)
			then := scene{}
			if want == api.OK {
				then = s.on(slices.DeleteFunc(s.axis(), func(i item) bool { return i.finger.Person == person }))
				persons, e := show.Persons(fr, c)
				if e != api.OK || slices.Contains(persons, person) || !hand.Posed(fr, c) {
					t.Errorf("%v, without %d: %v, %d", s, person, persons, e)
				}
			}
			if e != want || !equalFrames(fr, then.fr) || !equal(c, then.c) {
				t.Errorf("%v, %d: %v, %s, %d, not %v, %d", s, person, fr, code.Print(c), e, then, want)
			}
		}
	}
	if counts[api.OK] < 50 || counts[api.ErrReach] < 50 || counts[api.ErrNone] < 50 {
		t.Error(counts)
	}
}
