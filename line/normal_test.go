package line_test

import (
	"math/rand"
	"slices"
	"testing"

	"catscradle/api"
	"catscradle/line"
)

// P1.2: Normal, its examples, edges and errors.
func TestNormal(t *testing.T) {
	for _, c := range []struct{ w, want []int }{
		{list(0, 1), list(0, 1)},
		{list(1, 0), list(0, 1)},
		{list(2, 1, 1, 3), list(2, 3)},
		{list(0, 1, 2, 0), list(1, 2)},
		{list(0, 1, 1, 0), nil},
		{list(3, 3), nil},
		{nil, nil},
		{list(1, 2, 3, 0), list(0, 3, 2, 1)},
		{list(0, 1, 2, 3), list(0, 1, 2, 3)},
		{list(40, 0), list(0, 40)},
		{list(5, 0, 1, 2, 3, 5), list(0, 3, 2, 1)},
		{list(5, 6, 0, 1, 2, 3, 6, 5), list(0, 1, 2, 3)},
		{fill(400, 40), nil},
	} {
		got, e := line.Normal(c.w)
		want(t, "Normal("+line.Print(c.w)+")", got, e, c.want, api.OK)
	}
	for _, c := range []struct {
		w []int
		e api.Errno
	}{
		{list(0), api.ErrArg},
		{list(0, 1, 2), api.ErrArg},
		{list(0, -1), api.ErrArg},
		{list(41, 41), api.ErrArg},
		{fill(399, 0), api.ErrArg},
		{fill(401, 0), api.ErrLong},
		{fill(402, -1), api.ErrLong},
	} {
		got, e := line.Normal(c.w)
		want(t, "Normal("+line.Print(c.w)+")", got, e, nil, c.e)
	}
}

// crossing is a letter with its direction.
type crossing struct {
	gate int
	down bool
}

// slowNormal removes pairs in any order, lists all rotations, and chooses the least one.
func slowNormal(r *rand.Rand, w []int) []int {
	var rest []crossing
	for i, gate := range w {
		rest = append(rest, crossing{gate, i%2 == 0})
	}
	for {
		var pairs []int
		for i := range rest {
			if rest[i].gate == rest[(i+1)%len(rest)].gate {
				pairs = append(pairs, i)
			}
		}
		if len(pairs) == 0 {
			break
		}
		i := pairs[r.Intn(len(pairs))]
		turned := slices.Concat(rest[i:], rest[:i])
		rest = turned[2:]
	}
	var best []int
	for i, c := range rest {
		turned := slices.Concat(rest[i:], rest[:i])
		if !c.down {
			turned = slices.Concat(rest[i+1:], rest[:i+1])
			slices.Reverse(turned)
		}
		var letters []int
		for _, c := range turned {
			letters = append(letters, c.gate)
		}
		if best == nil || slices.Compare(letters, best) < 0 {
			best = letters
		}
	}
	return best
}

// P1.2: Normal is the least rotation, in whichever order pairs are removed, and its own normal form.
func TestNormalIsLeast(t *testing.T) {
	r := rand.New(rand.NewSource(1))
	for _, w := range samples() {
		got := normal(t, w)
		if slow := slowNormal(r, w); !slices.Equal(got, slow) {
			t.Errorf("Normal(%v) is %v, not %v", w, got, slow)
		}
		if !line.Reduced(got) {
			t.Errorf("Normal(%v) is %v, which is not reduced", w, got)
		}
		if again := normal(t, got); !slices.Equal(got, again) {
			t.Errorf("Normal(%v) is %v", got, again)
		}
	}
}

// P1.2: two equal neighbors more or less do not change the normal form.
func TestNormalOfRemoved(t *testing.T) {
	for _, w := range samples() {
		form := normal(t, w)
		for i := range w {
			j := (i + 1) % len(w)
			if w[i] != w[j] {
				continue
			}
			short := slices.Concat(w[:i], w[min(i+2, len(w)):])
			if j == 0 {
				short = slices.Clone(w[1:i])
				// The letter that is now the first one crosses upwards.
				if len(short) > 0 {
					short = slices.Concat(short[1:], short[:1])
				}
			}
			if got := normal(t, short); !slices.Equal(got, form) {
				t.Errorf("%v has the normal form %v, but %v has %v", w, form, short, got)
			}
		}
	}
}

// P1.2: Same.
func TestSame(t *testing.T) {
	for _, c := range []struct {
		a, b []int
		want bool
		e    api.Errno
	}{
		{list(3, 0, 1, 2), list(1, 2, 3, 0), true, api.OK},
		{list(0, 1, 2, 3), list(1, 2, 3, 0), false, api.OK},
		{list(2, 1, 1, 3), list(3, 2), true, api.OK},
		{nil, list(5, 5), true, api.OK},
		{nil, list(0, 1), false, api.OK},
		{list(0, 1), list(0, 1, 0, 1), false, api.OK},
		{list(0), list(0, 1), false, api.ErrArg},
		{list(0, 1), list(0), false, api.ErrArg},
		{list(0), list(0), false, api.ErrArg},
		{fill(402, 0), list(0), false, api.ErrLong},
		{list(0), fill(402, 0), false, api.ErrArg},
		{list(0, 1), fill(402, 0), false, api.ErrLong},
	} {
		if got, e := line.Same(c.a, c.b); got != c.want || e != c.e {
			t.Errorf("Same(%v, %v): %v, %d", c.a, c.b, got, e)
		}
	}
	all := samples()
	for i, a := range all[:200] {
		b := all[(i*37+11)%len(all)]
		want := slices.Equal(normal(t, a), normal(t, b))
		if got, e := line.Same(a, b); got != want || e != api.OK {
			t.Errorf("Same(%v, %v): %v, %d", a, b, got, e)
		}
	}
}
