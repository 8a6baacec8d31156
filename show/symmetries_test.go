package show_test

import (
	"math/rand"
	"slices"
	"testing"

	"catscradle/api"
	"catscradle/code"
	"catscradle/show"
)

// allSymmetries returns all symmetries, in their order.
func allSymmetries() []api.Symmetry {
	return []api.Symmetry{
		{}, {Turn: true}, {Mirror: true}, {Mirror: true, Turn: true},
		{Swap: true}, {Swap: true, Turn: true}, {Swap: true, Mirror: true}, {Swap: true, Mirror: true, Turn: true},
	}
}

// P9.5: images and symmetries worked out by hand.
func TestSymmetriesExamples(t *testing.T) {
	all := allSymmetries()
	for _, x := range []struct {
		c    string
		want []api.Symmetry
	}{
		{"0:", all},
		{"3:", all},
		{"0: 0.1 0.2", all},
		{"3: 1.1 2.1", all},
		{"2: 0.1 1.1", []api.Symmetry{all[0], all[1], all[4], all[5]}},
		{"2: 0.1 1.1 1.2 2.1", []api.Symmetry{all[0], all[2], all[4], all[6]}},
		{"2: 0.1 1u+ 1o+ 1.1", all[:1]},
		// The picture of the crossing is the same after half a turn in the plane.
		{"2: 1.1 0.1 1u+ 1.2 2.1 1o+", []api.Symmetry{all[0], all[6]}},
	} {
		got, e := show.Symmetries(read(t, x.c))
		if e != api.OK || !slices.Equal(got, x.want) {
			t.Errorf("%s: %v, %d, not %v", x.c, got, e, x.want)
		}
	}
	for _, x := range []struct {
		c    string
		s    api.Symmetry
		want string
	}{
		{"2: 0.1 1u+ 1o+ 1.1", all[0], "2: 0.1 1u+ 1o+ 1.1"},
		{"2: 0.1 2u+ 1o- 1u- 2o+ 1.1", all[0], "2: 0.1 2u+ 1o- 1u- 2o+ 1.1"},
		{"2: 0.1 1u+ 1o+ 1.1", all[1], "2: 1.1 0.1 1o+ 1u+"},
		{"2: 0.1 1u+ 1o+ 1.1", all[2], "2: 2.1 1u- 1o- 1.1"},
		{"2: 0.1 1u+ 1o+ 1.1", all[4], "2: 0.1 1o- 1u- 1.1"},
		{"2: 0.1 1u+ 1o+ 1.1", all[7], "2: 1.1 2.1 1u+ 1o+"},
		{"4:", all[7], "4:"},
	} {
		got, e := show.Image(read(t, x.c), x.s)
		if e != api.OK || code.Print(got) != x.want {
			t.Errorf("%s, %v: %s, %d, not %s", x.c, x.s, code.Print(got), e, x.want)
		}
	}
}

// P9.5: Image makes the changes that are chosen, one after the other.
func TestImage(t *testing.T) {
	for _, c := range samples() {
		for _, s := range allSymmetries() {
			want := c
			if s.Swap {
				want = must[api.Code](t)(code.Swap(want))
			}
			if s.Mirror {
				want = must[api.Code](t)(code.Mirror(want))
			}
			if s.Turn {
				want = must[api.Code](t)(code.Turn(want))
			}
			if got, e := show.Image(c, s); e != api.OK || !equal(got, want) {
				t.Errorf("%s, %v: %s, %d, not %s", code.Print(c), s, code.Print(got), e, code.Print(want))
			}
		}
	}
}

// symmetric returns a code that is likely to have symmetries: few moves lead to it.
func symmetric(r *rand.Rand) api.Code {
	k := 1 + r.Intn(3)
	i := 1 + r.Intn(k)
	c, _ := code.Circle(k, i, i+r.Intn(k-i+1))
	return traveled(r, changed(r, moved(r, c, r.Intn(5))))
}

// P9.5: Symmetries are those whose image is the same, in their order, and form a group.
func TestSymmetries(t *testing.T) {
	all := slices.Clone(samples())
	r := rand.New(rand.NewSource(6))
	for range 1000 {
		all = append(all, symmetric(r))
	}
	numbers, sets := map[int]int{}, map[string]int{}
	for _, c := range all {
		var want []api.Symmetry
		set := ""
		for _, s := range allSymmetries() {
			has := same(t, c, must[api.Code](t)(show.Image(c, s)))
			if has {
				want = append(want, s)
			}
			set += map[bool]string{true: "1", false: "0"}[has]
		}
		got, e := show.Symmetries(c)
		if e != api.OK || !slices.Equal(got, want) || got[0] != (api.Symmetry{}) {
			t.Fatalf("%s: %v, %d, not %v", code.Print(c), got, e, want)
		}
		numbers[len(got)]++
		sets[set]++
		for _, a := range got {
			for _, b := range got {
				both := api.Symmetry{Swap: a.Swap != b.Swap, Mirror: a.Mirror != b.Mirror, Turn: a.Turn != b.Turn}
				twice := must[api.Code](t)(show.Image(must[api.Code](t)(show.Image(c, a)), b))
				if !slices.Contains(got, both) || !same(t, twice, c) {
					t.Errorf("%s: %v and %v", code.Print(c), a, b)
				}
			}
		}
	}
	if numbers[1] < 20 || numbers[2] < 20 || numbers[4] < 20 || numbers[8] < 20 || len(sets) < 8 {
		t.Error(numbers, sets)
	}
}

// P9.5: codes that are not valid.
func TestSymmetriesErrors(t *testing.T) {
	for _, x := range refused() {
		if l, e := show.Symmetries(x.c); e != x.e || len(l) > 0 {
			t.Errorf("%s: %v, %d, not %d", code.Print(x.c), l, e, x.e)
		}
		for _, s := range allSymmetries() {
			if c, e := show.Image(x.c, s); e != x.e || !equal(c, api.Code{}) {
				t.Errorf("%s: %s, %d, not %d", code.Print(x.c), code.Print(c), e, x.e)
			}
		}
	}
}
