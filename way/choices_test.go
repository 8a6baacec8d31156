package way_test

import (
	"math/rand"
	"slices"
	"testing"

	"catscradle/api"
	"catscradle/hand"
	"catscradle/way"
)

// P8.2: choices worked out by hand.
func TestChoicesExamples(t *testing.T) {
	one := standard(t)
	three := frame(t, "L1", "L2", "R1")
	still, short := three, three
	still.Reach = 0
	short.Loops = 1
	const hung = "3: 0.1 1.1 2.1 3.1"
	for _, c := range []struct {
		fr    api.Frame
		c     string
		kinds []api.OpKind
		want  string
	}{
		{one, "10: 0.1 1.1", []api.OpKind{api.OpRelease, api.OpNavaho}, "release L1"},
		{one, "10: 0.1 1.1", nil, ""},
		{one, "10:", all(), ""},
		{one, "10: 1.1 2.1 8.1 9.1", []api.OpKind{api.OpTwist, api.OpRelease}, "release L2; release R2; twist L2 under; twist L2 over; twist R2 under; twist R2 over"},
		{three, hung, []api.OpKind{api.OpRelease, api.OpNavaho}, "release L1; release R1"},
		// The finger L2 is under the far strings, and the way to the near ones leads across these.
		{three, hung, []api.OpKind{api.OpTake}, "take L1 from L1 near loop 1 under; take L1 from L1 far loop 1 under; take L2 from L1 near loop 1 under; take L2 from L1 near loop 1 over; take L2 from L1 far loop 1 under; take R1 from L1 near loop 1 under; take R1 from L1 far loop 1 under"},
		{still, hung, []api.OpKind{api.OpTake}, "take L1 from L1 near loop 1 under; take L1 from L1 far loop 1 under; take L2 from L1 far loop 1 under; take R1 from L1 near loop 1 under; take R1 from L1 far loop 1 under"},
		{short, hung, []api.OpKind{api.OpTake}, "take L2 from L1 near loop 1 under; take L2 from L1 near loop 1 over; take L2 from L1 far loop 1 under"},
		{three, "3: 0.1 1.2 1.1 0.2 2.1 3.1", []api.OpKind{api.OpNavaho, api.OpRelease, api.OpTwist}, "release L1; release R1; navaho L1; twist L1 under; twist L1 over; twist R1 under; twist R1 over"},
	} {
		got, e := way.Choices(c.fr, read(t, c.c), c.kinds...)
		if e != api.OK || inWords(t, c.fr, got) != c.want {
			t.Errorf("%s, %v: %s, %d", c.c, c.kinds, inWords(t, c.fr, got), e)
		}
	}
}

// P8.2: Choices are those of the definition, each of them can be done, and neither the beginning of the code nor the order of the kinds matters.
func TestChoices(t *testing.T) {
	r := rand.New(rand.NewSource(2))
	counts := map[api.OpKind]int{}
	for _, s := range samples() {
		for range 3 {
			var kinds []api.OpKind
			for range r.Intn(6) {
				kinds = append(kinds, all()[r.Intn(4)])
			}
			want := slowChoices(s.fr, s.c, kinds)
			got, e := way.Choices(s.fr, s.c, kinds...)
			if e != api.OK || !equalLists(got, want) {
				t.Fatalf("%v, %v: %s, %d, not %s", s, kinds, inWords(t, s.fr, got), e, inWords(t, s.fr, want))
			}
			again, e := way.Choices(s.fr, traveled(r, s.c), kinds...)
			if e != api.OK || !equalLists(again, want) {
				t.Errorf("%v, %v: traveled in another way, %s, %d", s, kinds, inWords(t, s.fr, again), e)
			}
			for _, op := range got {
				counts[op.Kind]++
				if _, _, e := hand.Do(s.fr, s.c, op); e != api.OK {
					t.Errorf("%v: %v has the error %d", s, op, e)
				}
			}
		}
	}
	for _, kind := range all() {
		if counts[kind] < 20 {
			t.Error(counts)
		}
	}
}

// P8.2: choices keep to Reach, Loops and the limits of a code.
func TestChoicesLimits(t *testing.T) {
	fr := frame(t, "L1", "R1")
	fr.Loops = 1
	c := read(t, "2: 0.1 1.1 1.2 2.1")
	for n, want := range map[int]string{
		0:   "release L1; release R1; twist L1 under; twist L1 over; twist R1 under; twist R1 over",
		99:  "release L1; release R1; twist L1 under; twist L1 over; twist R1 under; twist R1 over",
		100: "release L1; release R1",
	} {
		got, e := way.Choices(fr, kinked(c, n), all()...)
		if e != api.OK || inWords(t, fr, got) != want {
			t.Errorf("%d kinks: %s, %d", n, inWords(t, fr, got), e)
		}
	}
}

// P8.2: kinds that are not possible.
func TestChoicesErrors(t *testing.T) {
	fr := standard(t)
	for _, kind := range []api.OpKind{0, -1, api.OpPick, api.OpTransfer, api.OpExchange, api.OpDrop, 9, 1 << 40} {
		for _, kinds := range [][]api.OpKind{{kind}, {api.OpRelease, kind}, {kind, api.OpTake, api.OpTwist}} {
			got, e := way.Choices(fr, read(t, "10: 0.1 1.1"), kinds...)
			if e != api.ErrArg || len(got) > 0 {
				t.Errorf("%v: %v, %d", kinds, got, e)
			}
			if got, whole, e := way.Far(fr, read(t, "10: 0.1 1.1"), rules(1, kinds...)); e != api.ErrArg || len(got) > 0 || whole {
				t.Errorf("Far, %v: %v, %v, %d", kinds, got, whole, e)
			}
		}
	}
}

// P8.2: distances worked out by hand, and the bound of the nodes. Three loops can be released in any order, which makes 1, 3, 3 and 1 codes.
func TestFarExamples(t *testing.T) {
	fr := standard(t)
	c := read(t, "10: 0.1 1.1 4.1 5.1 9.1 10.1")
	for _, x := range []struct {
		depth, nodes int
		want         []int
		whole        bool
	}{
		{0, 1, []int{1}, true},
		{1, 1, []int{1, 0}, false},
		{1, 3, []int{1, 2}, false},
		{1, 4, []int{1, 3}, true},
		{2, 4, []int{1, 3, 0}, false},
		{2, 6, []int{1, 3, 2}, false},
		{2, 7, []int{1, 3, 3}, true},
		{3, 7, []int{1, 3, 3, 0}, false},
		{3, 8, []int{1, 3, 3, 1}, true},
		{4, 8, []int{1, 3, 3, 1, 0}, true},
		{12, api.MaxClass, []int{1, 3, 3, 1, 0, 0, 0, 0, 0, 0, 0, 0, 0}, true},
	} {
		r := api.Rules{Kinds: []api.OpKind{api.OpRelease}, Depth: x.depth, Nodes: x.nodes, Limit: 1}
		got, whole, e := way.Far(fr, c, r)
		if e != api.OK || !slices.Equal(got, x.want) || whole != x.whole {
			t.Errorf("Depth %d, Nodes %d: %v, %v, %d", x.depth, x.nodes, got, whole, e)
		}
		// There are no choices without kinds, so no search is cut off.
		got, whole, e = way.Far(fr, c, api.Rules{Depth: x.depth, Nodes: x.nodes, Limit: api.MaxClass})
		none := make([]int, x.depth+1)
		none[0] = 1
		if e != api.OK || !slices.Equal(got, none) || !whole {
			t.Errorf("Depth %d, no kinds: %v, %v, %d", x.depth, got, whole, e)
		}
	}
}

// P8.2: Far counts the codes of the search as it is defined.
func TestFar(t *testing.T) {
	r := rand.New(rand.NewSource(3))
	cut, unposed := 0, 0
	for _, s := range samples() {
		rules := randomRules(r)
		want, whole := slowFar(s.fr, s.c, rules)
		got, all, e := way.Far(s.fr, s.c, rules)
		if e != api.OK || !slices.Equal(got, want) || all != whole {
			t.Fatalf("%v, %v: %v, %v, %d, not %v, %v", s, rules, got, all, e, want, whole)
		}
		if !whole {
			cut++
		}
		list, _ := slowSearch(s.fr, s.c, rules)
		for _, at := range list {
			if !hand.Posed(s.fr, at.c) {
				unposed++
			}
		}
	}
	if cut < 20 || cut > 130 || unposed < 5 {
		t.Errorf("%d searches cut off, %d codes that are not posed", cut, unposed)
	}
}
