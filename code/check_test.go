package code_test

import (
	"math"
	"math/rand"
	"slices"
	"testing"

	"catscradle/api"
	"catscradle/code"
)

// P2.1: Check, its examples, edges and errors.
func TestCheck(t *testing.T) {
	for _, c := range []struct {
		s string
		e api.Errno
	}{
		{"2: 0.1 1.1", api.OK},
		{"2: 1.1 1.1", api.ErrCode},
		{"2: 0.1", api.ErrCode},
		{"1: 0.1 2.1", api.ErrCode},
		{"3:", api.OK},
		{"2: 0.1 1u+ 1o+ 1.1", api.OK},
		{"1: 0.1 1u+ 1.1 1o+", api.ErrCode},
		{"0:", api.OK},
		{"40:", api.OK},
		{"41:", api.ErrArg},
		{"-1:", api.ErrArg},
		{"41: 7.7", api.ErrArg},
		{"40: 0.1 40.1", api.OK},
		{"40: 0.1 41.1", api.ErrCode},
		{"0: 0.1 0.2", api.OK},
		{"0: 0.2 0.1", api.OK},
		{"0: 0.1 0.1", api.ErrCode},
		{"0: 0.0 0.1", api.ErrCode},
		{"0: 0.1 0.3", api.ErrCode},
		{"0: 0.1 -1.1", api.ErrCode},
		{"1: 0.1 0.2 1.1", api.ErrCode},
		{"1: 0.1 0.3 0.2 1.1", api.ErrCode},
		{"1: 0.1 0.2 0.3 1.1", api.OK},
		{"2: 1u+ 0.1 1.1 1o+", api.ErrCode},
		{"2: 1u+ 1o+", api.ErrCode},
		{"2: 0.1 1u+ 1.1", api.ErrCode},
		{"2: 0.1 1u+ 1u+ 1.1", api.ErrCode},
		{"2: 0.1 1o+ 1o+ 1.1", api.ErrCode},
		{"2: 0.1 1u+ 1o- 1.1", api.ErrCode},
		{"2: 0.1 1u? 1o? 1.1", api.ErrCode},
		{"2: 0.1 2u+ 2o+ 1.1", api.ErrCode},
		{"2: 0.1 0u+ 0o+ 1.1", api.ErrCode},
		{"2: 0.1 1u+ 1o+ 3u+ 3o+ 1.1", api.ErrCode},
		{"2: 0.1 1u+ 1o+ 1u+ 1o+ 1.1", api.ErrCode},
		{"2: 0.1 1u+ 1o+ 1o+ 2u+ 2o+ 1.1", api.ErrCode},
		{"2: 0.1 1u+ 2o+ 1o+ 2u+ 1.1", api.ErrCode},
		{"2: 0.1 1u+ 2o- 1o+ 2u- 1.1", api.ErrCode},
		{"0: 0.1 1o+ 2u+ 3o+ 1u+ 2o+ 3u+ 0.2", api.OK},
		{"0: 0.1 1o- 2u- 3o- 1u- 2o- 3u- 0.2", api.OK},
		{"0: 0.1 1o+ 2u+ 3o- 1u+ 2o+ 3u- 0.2", api.ErrCode},
	} {
		if e := code.Check(raw(c.s)); e != c.e {
			t.Errorf("Check(%s): %d instead of %d", c.s, e, c.e)
		}
	}
}

// P2.1: what Check says of letters with fields that their kind does not use.
func TestCheckFields(t *testing.T) {
	good := raw("2: 0.1 1u+ 1o+ 1.1")
	for i := range good.Letters {
		for _, edit := range []func(l *api.Letter){
			func(l *api.Letter) { l.Kind = 0 },
			func(l *api.Letter) { l.Kind = 3 },
			func(l *api.Letter) { l.Kind = 3 - l.Kind },
			func(l *api.Letter) { l.Gate++ },
			func(l *api.Letter) { l.Gate-- },
			func(l *api.Letter) { l.Gate = math.MaxInt },
			func(l *api.Letter) { l.Rank++ },
			func(l *api.Letter) { l.Rank-- },
			func(l *api.Letter) { l.Rank = math.MinInt },
			func(l *api.Letter) { l.ID++ },
			func(l *api.Letter) { l.ID = math.MinInt },
			func(l *api.Letter) { l.Sign++ },
			func(l *api.Letter) { l.Sign-- },
			func(l *api.Letter) { l.Over = !l.Over },
		} {
			bad := api.Code{Fingers: 2, Letters: slices.Clone(good.Letters)}
			edit(&bad.Letters[i])
			// A pass may go through another gate.
			moved := bad.Letters[i] == pass(0, 1) || bad.Letters[i] == pass(1, 1) || bad.Letters[i] == pass(2, 1)
			if e := code.Check(bad); e != api.ErrCode && !moved || e != slowCheck(bad) {
				t.Errorf("Check of %v: %d", bad, e)
			}
		}
	}
}

// P2.1: both visits of a crossing with the same field that crosses do not use.
func TestCheckCrosses(t *testing.T) {
	for _, edit := range []api.Letter{{Gate: 1}, {Gate: -1}, {Rank: 1}, {Rank: -1}} {
		c := raw("2: 0.1 1u+ 1o+ 1.1")
		for i := 1; i < 3; i++ {
			c.Letters[i].Gate, c.Letters[i].Rank = edit.Gate, edit.Rank
		}
		if e := code.Check(c); e != api.ErrCode {
			t.Errorf("Check of %v: %d", c, e)
		}
	}
}

// P2.1: the bounds come before all other conditions.
func TestCheckBounds(t *testing.T) {
	cut := func(c api.Code, n int) api.Code {
		return api.Code{Fingers: c.Fingers, Letters: c.Letters[:n]}
	}
	for i, c := range []struct {
		c api.Code
		e api.Errno
	}{
		{snake(400), api.OK},
		{snake(402), api.ErrLong},
		{cut(snake(402), 401), api.ErrLong},
		{cut(snake(402), 399), api.ErrCode},
		{kinks(1, 100), api.OK},
		{kinks(40, 100), api.OK},
		{kinks(1, 101), api.ErrLong},
		{cut(kinks(1, 101), 202), api.ErrLong},
		{cut(kinks(1, 101), 201), api.ErrCode},
		{kinks(41, 101), api.ErrLong},
		{kinks(41, 100), api.ErrArg},
		{api.Code{Fingers: -1, Letters: snake(401).Letters}, api.ErrLong},
		{api.Code{Fingers: -1, Letters: snake(4).Letters}, api.ErrArg},
		{api.Code{Letters: make([]api.Letter, 401)}, api.ErrLong},
		{api.Code{Letters: make([]api.Letter, 400)}, api.ErrCode},
		{api.Code{Fingers: math.MaxInt}, api.ErrArg},
		{api.Code{Fingers: math.MinInt, Letters: []api.Letter{{}}}, api.ErrArg},
	} {
		if e := code.Check(c.c); e != c.e {
			t.Errorf("code %d: %d instead of %d", i, e, c.e)
		}
	}
}

// slowCheck follows the conditions one after the other, for codes within the bounds.
func slowCheck(c api.Code) api.Errno {
	if len(c.Letters) == 0 {
		return api.OK
	}
	ranks, visits := map[int][]int{}, map[int][]api.Letter{}
	passes := 0
	for _, l := range c.Letters {
		switch {
		case l.Kind == api.Pass && l.Gate >= 0 && l.Gate <= c.Fingers && l.ID == 0 && l.Sign == 0 && !l.Over:
			ranks[l.Gate] = append(ranks[l.Gate], l.Rank)
			passes++
		case l.Kind == api.Cross && l.Gate == 0 && l.Rank == 0 && l.Sign*l.Sign == 1:
			visits[l.ID] = append(visits[l.ID], l)
		default:
			return api.ErrCode
		}
	}
	if c.Letters[0].Kind != api.Pass || passes%2 == 1 {
		return api.ErrCode
	}
	for _, l := range ranks {
		slices.Sort(l)
		for i, rank := range l {
			if rank != i+1 {
				return api.ErrCode
			}
		}
	}
	for id, l := range visits {
		if id < 1 || id > len(visits) || len(l) != 2 || l[0].Over == l[1].Over || l[0].Sign != l[1].Sign {
			return api.ErrCode
		}
	}
	if len(slowFaces(c)) != passes+len(visits)+2 {
		return api.ErrCode
	}
	return api.OK
}

// P2.1: Check of codes into which errors are put.
func TestCheckIsSlowCheck(t *testing.T) {
	r := rand.New(rand.NewSource(5))
	results := map[api.Errno]int{}
	for _, good := range samples() {
		for range 20 {
			c := api.Code{Fingers: good.Fingers, Letters: slices.Clone(good.Letters)}
			for range r.Intn(3) {
				spoil(r, c.Letters)
			}
			e := code.Check(c)
			if slow := slowCheck(c); e != slow {
				t.Fatalf("Check(%s): %d instead of %d", code.Print(c), e, slow)
			}
			results[e]++
		}
	}
	if results[api.OK] < 1000 || results[api.ErrCode] < 1000 {
		t.Error("too few of a kind", results)
	}
}

// spoil changes letters so that the code is perhaps not valid any more.
func spoil(r *rand.Rand, letters []api.Letter) {
	if len(letters) == 0 {
		return
	}
	i, j := r.Intn(len(letters)), r.Intn(len(letters))
	a, b := &letters[i], &letters[j]
	switch r.Intn(5) {
	case 0:
		*a, *b = *b, *a
	case 1:
		a.Gate, b.Gate, a.Rank, b.Rank = b.Gate, a.Gate, b.Rank, a.Rank
	case 2:
		a.ID, b.ID = b.ID, a.ID
	case 3:
		for k := range letters {
			if letters[k].ID == a.ID {
				letters[k].Sign *= -1
			}
		}
	case 4:
		a.Over, b.Over = b.Over, a.Over
	}
}

// P2.1: Check of all codes of one gate with up to 4 passes and up to 2 crossings, in which fields and IDs are right.
func TestCheckAllSmall(t *testing.T) {
	valid := 0
	for _, letters := range [][]string{
		{"0.1", "0.2"}, {"0.1", "0.2", "1u+", "1o+"}, {"0.1", "0.2", "1u+", "1o+", "2u+", "2o+"}, {"0.1", "0.2", "1u-", "1o-", "2u+", "2o+"},
		{"0.1", "0.2", "0.3", "0.4"}, {"0.1", "0.2", "0.3", "0.4", "1u+", "1o+"},
	} {
		for _, order := range orders(letters) {
			c := raw("0:")
			for _, s := range order {
				c.Letters = append(c.Letters, raw("0: "+s).Letters...)
			}
			e := code.Check(c)
			if slow := slowCheck(c); e != slow {
				t.Fatalf("Check(%s): %d instead of %d", code.Print(c), e, slow)
			}
			if e == api.OK {
				valid++
			}
		}
	}
	if valid < 100 {
		t.Error("too few valid codes", valid)
	}
}

// orders returns all orders of a list.
func orders(list []string) [][]string {
	if len(list) == 0 {
		return [][]string{nil}
	}
	var all [][]string
	for i, s := range list {
		rest := slices.Concat(list[:i], list[i+1:])
		for _, order := range orders(rest) {
			all = append(all, append(order, s))
		}
	}
	return all
}

// P2.1: Passes and Crossings of any code, Word of valid ones.
func TestCounts(t *testing.T) {
	for _, c := range []struct {
		c                 api.Code
		passes, crossings int
		word              []int
		e                 api.Errno
	}{
		{raw("2:"), 0, 0, nil, api.OK},
		{raw("2: 1.1 0.1"), 2, 0, []int{1, 0}, api.OK},
		{raw("2: 0.1 1u+ 1o+ 1.1"), 2, 1, []int{0, 1}, api.OK},
		{raw("3: 0.1 2.1 2.2 2.3"), 4, 0, []int{0, 2, 2, 2}, api.OK},
		{raw("3: 7.1 1u+ 0.0 ? 2o-"), 2, 1, nil, api.ErrCode},
		{raw("3: 1u+ 1u+ 1u+"), 0, 1, nil, api.ErrCode},
		{raw("99: 1u+ 9.9"), 1, 0, nil, api.ErrArg},
		{snake(500), 500, 0, nil, api.ErrLong},
		{kinks(1, 300), 2, 300, nil, api.ErrLong},
		{api.Code{Letters: []api.Letter{{Kind: 3}, {}}}, 0, 0, nil, api.ErrCode},
	} {
		word, e := code.Word(c.c)
		if code.Passes(c.c) != c.passes || code.Crossings(c.c) != c.crossings || e != c.e || !slices.Equal(word, c.word) {
			t.Errorf("%s: %d passes, %d crossings, the word %v, %d", code.Print(c.c), code.Passes(c.c), code.Crossings(c.c), word, e)
		}
	}
}
