package hand_test

import (
	"math"
	"slices"
	"testing"

	"catscradle/api"
	"catscradle/code"
	"catscradle/hand"
)

// P6.5: Opening, on standard frames and on others.
func TestOpening(t *testing.T) {
	one := standard(t)
	two := must[api.Frame](t)(hand.Standard(2))
	small := frame(t, "2L0", "L1", "L2", "L5", "R5", "R2", "2R3", "R1")
	six := frame(t, "L1", "L2", "L5", "R5", "R2", "R1")
	six.Reach, six.Loops = 0, 1
	thumbs := frame(t, "L1", "L5", "R5", "R1")
	index := frame(t, "R5", "L2", "R1", "R2")
	for _, c := range []struct {
		fr   api.Frame
		kind api.OpeningKind
		want string
		ops  []api.Op
	}{
		{one, api.OpeningFirst, "10: 0.1 1.1 4.1 5.1 5.2 6.1 9.1 10.1", nil},
		{one, api.OpeningA, "10: 0.1 1.1 4.1 5.1 5.2 6.1 9.1 10.1", []api.Op{pick(9, near(5, 1, 0), over(near(6, 1, 0))), pick(2, near(6, 1, 1))}},
		{one, api.OpeningB, "10: 0.1 1.1 4.1 5.1 5.2 6.1 9.1 10.1", []api.Op{pick(2, near(6, 1, 0), over(near(5, 1, 0))), pick(9, near(5, 1, 1))}},
		{one, api.OpeningIndex, "10: 1.1 2.1 8.1 9.1", nil},
		{two, api.OpeningA, "20: 0.1 1.1 4.1 5.1 5.2 6.1 9.1 10.1", []api.Op{pick(9, near(5, 1, 0), over(near(6, 1, 0))), pick(2, near(6, 1, 1))}},
		{small, api.OpeningFirst, "8: 1.1 2.1 3.1 4.1 4.2 5.1 7.1 8.1", nil},
		{small, api.OpeningB, "8: 1.1 2.1 3.1 4.1 4.2 5.1 7.1 8.1", []api.Op{pick(3, near(5, 1, 0), over(near(4, 1, 0))), pick(6, near(4, 1, 1))}},
		{small, api.OpeningIndex, "8: 2.1 3.1 5.1 6.1", nil},
		{six, api.OpeningA, "6: 0.1 1.1 2.1 3.1 3.2 4.1 5.1 6.1", []api.Op{pick(5, near(3, 1, 0), over(near(4, 1, 0))), pick(2, near(4, 1, 1))}},
		{thumbs, api.OpeningFirst, "4: 0.1 1.1 1.2 2.1 2.2 3.1 3.2 4.1", nil},
		{index, api.OpeningIndex, "4: 1.1 2.1 3.1 4.1", nil},
	} {
		got, ops, e := hand.Opening(c.fr, c.kind)
		if e != api.OK || code.Print(got) != c.want || !slices.EqualFunc(ops, c.ops, equalOps) || !hand.Posed(c.fr, got) {
			t.Errorf("Opening(%v, %d): %s, %+v, %d", c.fr, c.kind, code.Print(got), ops, e)
		}
	}
}

// P6.5: the frames and kinds that Opening refuses.
func TestNoOpening(t *testing.T) {
	one := standard(t)
	for _, c := range []struct {
		fr   api.Frame
		kind api.OpeningKind
	}{
		{one, 0}, {one, 5}, {one, -1}, {one, math.MaxInt}, {one, math.MinInt},
		{api.Frame{Fingers: one.Fingers}, api.OpeningFirst},
		{api.Frame{Fingers: one.Fingers, Loops: 4, Reach: 41}, api.OpeningIndex},
		{api.Frame{Fingers: one.Fingers, Loops: 21}, api.OpeningA},
		{api.Frame{Fingers: one.Fingers, Reach: -1, Loops: 1}, api.OpeningB},
		{api.Frame{Loops: 1}, api.OpeningFirst},
		{api.Frame{Loops: 1}, api.OpeningIndex},
		{frame(t, "L1", "L5", "R5"), api.OpeningFirst},
		{frame(t, "L2", "L5", "R5", "R2", "R1"), api.OpeningA},
		{frame(t, "L2", "L5", "R5", "R2", "R1"), api.OpeningB},
		{frame(t, "L1", "R5", "L5", "R1"), api.OpeningFirst},
		{frame(t, "R1", "L1", "L5", "R5"), api.OpeningFirst},
		{frame(t, "2L1", "2L5", "2R5", "2R1"), api.OpeningFirst},
		{frame(t, "L1", "L5", "R5", "R1"), api.OpeningA},
		{frame(t, "L1", "L5", "R5", "R1"), api.OpeningB},
		{frame(t, "L1", "L5", "R5", "R1"), api.OpeningIndex},
		{frame(t, "L2", "L1", "L5", "R5", "R2", "R1"), api.OpeningA},
		{frame(t, "L1", "L2", "L5", "R5", "R1", "R2"), api.OpeningB},
		{frame(t, "L1", "L2", "L5", "R5", "R1", "2R2"), api.OpeningA},
		{frame(t, "R2", "L2"), api.OpeningIndex},
		{frame(t, "L2"), api.OpeningIndex},
		{frame(t, "R2", "L1"), api.OpeningIndex},
	} {
		if got, ops, e := hand.Opening(c.fr, c.kind); e != api.ErrArg || !equal(got, api.Code{}) || len(ops) > 0 {
			t.Errorf("Opening(%v, %d): %s, %+v, %d", c.fr, c.kind, code.Print(got), ops, e)
		}
	}
}

// P6.5: the operations of openings can be done; both index fingers have a loop then.
func TestOpened(t *testing.T) {
	for persons := 1; persons <= 4; persons++ {
		fr := must[api.Frame](t)(hand.Standard(persons))
		for kind := api.OpeningFirst; kind <= api.OpeningIndex; kind++ {
			c, ops, e := hand.Opening(fr, kind)
			end, n, e2 := hand.Run(fr, c, ops...)
			if e != api.OK || e2 != api.OK || n != len(ops) || !hand.Posed(fr, end) {
				t.Errorf("opening %d: %s, %d, %d", kind, code.Print(end), e, e2)
			}
		}
	}
	fr := standard(t)
	for kind, want := range map[api.OpeningKind]string{
		api.OpeningA: "10: 0.1 1.1 1o+ 9.1 8.1 2o- 4.1 5.1 5.2 6.1 2u- 2.1 1.2 1u+ 9.2 10.1",
		api.OpeningB: "10: 0.1 1.1 2u- 9.1 8.1 1u+ 4.1 5.1 5.2 6.1 1o+ 2.1 1.2 2o- 9.2 10.1",
	} {
		c, ops, _ := hand.Opening(fr, kind)
		end, _, _ := hand.Run(fr, c, ops...)
		if !same(t, end, read(t, want)) {
			t.Errorf("opening %d: %s", kind, code.Print(end))
		}
	}
}

// P6.5: the openings A and B are reflections of each other, left to right.
func TestOpeningsMirror(t *testing.T) {
	fr := standard(t)
	a, opsA, _ := hand.Opening(fr, api.OpeningA)
	b, opsB, _ := hand.Opening(fr, api.OpeningB)
	endA, _, e := hand.Run(fr, a, opsA...)
	endB, _, e2 := hand.Run(fr, b, opsB...)
	mirror := must[api.Code](t)(code.Mirror(endA))
	if e != api.OK || e2 != api.OK || !same(t, mirror, endB) {
		t.Errorf("%s, %s", code.Print(mirror), code.Print(endB))
	}
}
