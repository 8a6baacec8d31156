package code_test

import (
	"cmp"
	"math"
	"math/rand"
	"slices"
	"testing"

	"catscradle/api"
	"catscradle/code"
)

// wrong returns codes that are not valid.
func wrong() map[string]api.Code {
	return map[string]api.Code{
		"not valid":         raw("2: 0.1"),
		"not flat":          raw("1: 0.1 1u+ 1.1 1o+"),
		"too many fingers":  raw("41:"),
		"too few fingers":   raw("-1: 0.1 1.1"),
		"too many letters":  snake(402),
		"too many crossing": kinks(1, 101),
	}
}

// P2.3 to P2.5: errors of the code come first, and the results with them are zero values.
func TestErrors(t *testing.T) {
	for name, c := range wrong() {
		e := code.Check(c)
		if e == api.OK {
			t.Errorf("%s: no error", name)
		}
		for _, f := range calls() {
			got, e2 := f.do(c)
			want(t, f.name+" of a code that is "+name, got, e2, api.Code{}, e)
		}
		for _, i := range []int{-1, 5, math.MaxInt, math.MinInt} {
			got, e2 := code.Start(c, i)
			want(t, "Start of a code that is "+name, got, e2, api.Code{}, e)
			got, e2 = code.Forget(c, i)
			want(t, "Forget of a code that is "+name, got, e2, api.Code{}, e)
			got, e2 = code.Insert(c, api.Place{Gate: i, Left: i})
			want(t, "Insert of a code that is "+name, got, e2, api.Code{}, e)
		}
		good := raw("2: 0.1 1.1")
		if same, e2 := code.Same(c, good); same || e2 != e {
			t.Errorf("Same of a code that is %s: %v, %d", name, same, e2)
		}
		if same, e2 := code.Same(good, c); same || e2 != e {
			t.Errorf("Same of a code that is %s: %v, %d", name, same, e2)
		}
	}
	one, two := raw("41:"), raw("2: 0.1")
	if same, e := code.Same(one, two); same || e != api.ErrArg {
		t.Error("Same of two wrong codes", same, e)
	}
	if same, e := code.Same(two, one); same || e != api.ErrCode {
		t.Error("Same of two wrong codes", same, e)
	}
}

// P2.3: Normal, its example and edges.
func TestNormal(t *testing.T) {
	for _, c := range []struct{ from, to string }{
		{"2: 1.1 0.1", "2: 0.1 1.1"},
		{"2: 0.1 1.1", "2: 0.1 1.1"},
		{"0: 0.2 0.1", "0: 0.1 0.2"},
		{"7:", "7:"},
		{"2: 0.1 1o+ 1u+ 1.1", "2: 0.1 1o+ 1u+ 1.1"},
		{"2: 1.1 1u+ 1o+ 0.1", "2: 0.1 1o+ 1u+ 1.1"},
		{"2: 1.1 0.1 1u+ 1o+", "2: 0.1 1.1 1o+ 1u+"},
		{"2: 0.1 2u- 2o- 1u+ 1o+ 1.1", "2: 0.1 1u- 1o- 2u+ 2o+ 1.1"},
		{"3: 2.1 3.1 0.1 1.1", "3: 0.1 1.1 2.1 3.1"},
		{"3: 3.1 0.1 1.1 2.1", "3: 0.1 3.1 2.1 1.1"},
		{"1: 1.1 0.3 0.2 0.1", "1: 0.1 0.2 0.3 1.1"},
	} {
		got, e := code.Normal(raw(c.from))
		want(t, "Normal("+c.from+")", got, e, raw(c.to), api.OK)
	}
}

// starts returns the lists of letters that begin at passes that go down.
func starts(letters []api.Letter) [][]api.Letter {
	var all [][]api.Letter
	down := false
	for i, l := range letters {
		if l.Kind == api.Pass {
			down = !down
			if down {
				all = append(all, slices.Concat(letters[i:], letters[:i]))
			}
		}
	}
	return all
}

// reversed returns the letters in the opposite order, from the first pass on, which went up before.
func reversed(letters []api.Letter) []api.Letter {
	letters = slices.Clone(letters)
	slices.Reverse(letters)
	i := slices.IndexFunc(letters, func(l api.Letter) bool { return l.Kind == api.Pass })
	return slices.Concat(letters[i:], letters[:i])
}

// slowRename names crossings in the order of first visits.
func slowRename(letters []api.Letter) []api.Letter {
	names := map[int]int{}
	var result []api.Letter
	for _, l := range letters {
		if l.Kind == api.Cross {
			if names[l.ID] == 0 {
				names[l.ID] = len(names) + 1
			}
			l.ID = names[l.ID]
		}
		result = append(result, l)
	}
	return result
}

// order is the order of letters.
func order(a, b api.Letter) int {
	flag := func(b bool) int {
		if b {
			return 1
		}
		return 0
	}
	switch {
	case a.Kind != b.Kind && a.Kind == api.Pass:
		return -1
	case a.Kind != b.Kind:
		return 1
	case a.Kind == api.Pass:
		return cmp.Or(cmp.Compare(a.Gate, b.Gate), cmp.Compare(a.Rank, b.Rank))
	}
	return cmp.Or(cmp.Compare(a.ID, b.ID), cmp.Compare(flag(a.Over), flag(b.Over)), cmp.Compare(a.Sign, b.Sign))
}

// P2.3: Normal is the least one of all lists; Rename renames.
func TestNormalIsLeast(t *testing.T) {
	for _, c := range samples() {
		if len(c.Letters) == 0 {
			continue
		}
		var best []api.Letter
		for _, list := range slices.Concat(starts(c.Letters), starts(reversed(c.Letters))) {
			list = slowRename(list)
			if best == nil || slices.CompareFunc(list, best, order) < 0 {
				best = list
			}
		}
		got, e := code.Normal(c)
		want(t, "Normal("+code.Print(c)+")", got, e, api.Code{Fingers: c.Fingers, Letters: best}, api.OK)
		got, e = code.Rename(c)
		want(t, "Rename("+code.Print(c)+")", got, e, api.Code{Fingers: c.Fingers, Letters: slowRename(c.Letters)}, api.OK)
	}
}

// shuffled returns a code with other IDs.
func shuffled(r *rand.Rand, c api.Code) api.Code {
	names := r.Perm(code.Crossings(c))
	result := api.Code{Fingers: c.Fingers, Letters: slices.Clone(c.Letters)}
	for i, l := range c.Letters {
		if l.Kind == api.Cross {
			result.Letters[i].ID = names[l.ID-1] + 1
		}
	}
	return result
}

// P2.3: starts, codes traveled backwards, renamings and normal forms are the same; Start and Back keep the IDs.
func TestNormalOfSame(t *testing.T) {
	r := rand.New(rand.NewSource(9))
	for _, c := range samples() {
		form := must[api.Code](t)(code.Normal(c))
		same := []api.Code{shuffled(r, c), must[api.Code](t)(code.Rename(shuffled(r, c))), form}
		back := must[api.Code](t)(code.Back(c))
		if len(c.Letters) > 0 && !slices.Equal(back.Letters, reversed(c.Letters)) {
			t.Errorf("Back(%s): %s", code.Print(c), code.Print(back))
		}
		same = append(same, back)
		var found [][]api.Letter
		for i := -1; i <= len(c.Letters); i++ {
			got, e := code.Start(c, i)
			if e == api.OK {
				found = append(found, got.Letters)
				same = append(same, got, must[api.Code](t)(code.Back(got)))
			} else if e != api.ErrArg || !equal(got, api.Code{}) {
				t.Errorf("Start(%s, %d): %v, %d", code.Print(c), i, got, e)
			}
		}
		if !slices.EqualFunc(found, starts(c.Letters), slices.Equal) {
			t.Errorf("the starts of %s: %v", code.Print(c), found)
		}
		for _, other := range same {
			got, e := code.Normal(other)
			want(t, "Normal("+code.Print(other)+")", got, e, form, api.OK)
			if is, e := code.Same(other, c); !is || e != api.OK {
				t.Errorf("Same(%s, %s): %v, %d", code.Print(other), code.Print(c), is, e)
			}
		}
	}
}

// P2.3: codes that are not the same.
func TestNotSame(t *testing.T) {
	list := []string{"2:", "3:", "2: 0.1 1.1", "3: 0.1 1.1", "2: 0.1 2.1", "2: 0.1 0.2", "2: 0.1 0.2 0.3 1.1", "2: 0.1 1o+ 1u+ 1.1", "2: 0.1 1u+ 1o+ 1.1", "2: 0.1 1o- 1u- 1.1", "2: 0.1 1.1 1o+ 1u+"}
	for i, a := range list {
		for j, b := range list {
			if same, e := code.Same(raw(a), raw(b)); same != (i == j) || e != api.OK {
				t.Errorf("Same(%s, %s): %v, %d", a, b, same, e)
			}
		}
	}
}

// P2.4: Start, its edges and errors.
func TestStart(t *testing.T) {
	from := raw("3: 3.1 1o+ 1u+ 0.1 1.1 2.1 2u- 2o-")
	for _, c := range []struct {
		i  int
		to api.Code
		e  api.Errno
	}{
		{0, from, api.OK},
		{4, raw("3: 1.1 2.1 2u- 2o- 3.1 1o+ 1u+ 0.1"), api.OK},
		{1, api.Code{}, api.ErrArg},
		{3, api.Code{}, api.ErrArg},
		{5, api.Code{}, api.ErrArg},
		{7, api.Code{}, api.ErrArg},
		{8, api.Code{}, api.ErrArg},
		{-1, api.Code{}, api.ErrArg},
		{math.MaxInt, api.Code{}, api.ErrArg},
		{math.MinInt, api.Code{}, api.ErrArg},
	} {
		got, e := code.Start(from, c.i)
		want(t, "Start", got, e, c.to, c.e)
	}
	got, e := code.Start(raw("2:"), 0)
	want(t, "Start of the bare loop", got, e, api.Code{}, api.ErrArg)
}
