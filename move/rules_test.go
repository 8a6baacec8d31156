package move_test

import (
	"math"
	"math/rand"
	"slices"
	"strings"
	"testing"

	"catscradle/api"
	"catscradle/code"
	"catscradle/move"
)

// spoil overwrites the letters of a code.
func spoil(c api.Code) {
	for i := range c.Letters {
		c.Letters[i] = api.Letter{Gate: -7}
	}
	_ = append(c.Letters, api.Letter{}, api.Letter{})
}

// R4, R8: codes are neither changed nor kept, results share no memory, and equal calls have equal results.
func TestMemory(t *testing.T) {
	for _, c := range samples(12) {
		for _, m := range someOfEach(t, c, 2) {
			arg := copied(c)
			one := must[api.Code](t)(move.Apply(arg, m))
			two := must[api.Code](t)(move.Apply(arg, m))
			if !equal(arg, c) || !equal(one, two) {
				t.Fatalf("Apply(%s, %s) changes its argument, or its result", code.Print(c), move.Print(m))
			}
			spoil(arg)
			spoil(two)
			if three := must[api.Code](t)(move.Apply(c, m)); !equal(one, three) {
				t.Fatalf("Apply(%s, %s) shares memory", code.Print(c), move.Print(m))
			}
		}
		arg := copied(c)
		kept, _, _ := move.Replay(arg, nil)
		spoil(arg)
		if !equal(kept, c) {
			t.Fatalf("Replay(%s) shares memory with its argument", code.Print(c))
		}
		one, two := must[[]api.Move](t)(move.All(c)), must[[]api.Move](t)(move.All(c))
		clear(two)
		_ = append(one[:0:0], two...)
		if three := must[[]api.Move](t)(move.All(c)); !slices.Equal(one, three) {
			t.Fatalf("All(%s) shares memory", code.Print(c))
		}
	}
}

// R4: lists of moves and of kinds are not changed.
func TestLists(t *testing.T) {
	r := rand.New(rand.NewSource(19))
	for _, c := range samples(10)[:40] {
		l, codes := walk(t, r, c, 5)
		arg, from := slices.Clone(l), copied(c)
		kinds := slices.Clone(allKinds)
		slices.Reverse(kinds)
		given := slices.Clone(kinds)
		got, _, _ := move.Replay(from, arg)
		move.Undo(from, arg)
		move.Inverse(from, arg[0])
		move.Some(from, given...)
		if !slices.Equal(arg, l) || !equal(from, c) || !slices.Equal(given, kinds) || !equal(got, codes[5]) {
			t.Fatalf("arguments are changed: %s; %s", code.Print(c), show(l))
		}
	}
}

// R3: nil and empty lists are the same.
func TestEmpty(t *testing.T) {
	empty := api.Code{Fingers: 1, Letters: []api.Letter{}}
	if l, e := move.All(empty); e != api.OK || show(l) != "axis-make 0 0 0, axis-make 0 1 0" {
		t.Error(show(l), e)
	}
	if got, n, e := move.Replay(empty, []api.Move{}); e != api.OK || n != 0 || !equal(got, api.Code{Fingers: 1}) {
		t.Error(code.Print(got), n, e)
	}
	if l, e := move.Undo(empty, []api.Move{}); e != api.OK || len(l) > 0 {
		t.Error(show(l), e)
	}
	if m, e := move.Inverse(empty, api.Move{Kind: api.AxisMake, B: 1}); e != api.OK || move.Print(m) != "axis-cut 0" {
		t.Error(move.Print(m), e)
	}
}

// randomMove returns any move, with fields that are often possible.
func randomMove(r *rand.Rand) api.Move {
	numbers := []int{math.MinInt, math.MinInt + 1, -400, -1, 0, 1, 2, 3, 4, 5, 40, 41, 400, math.MaxInt - 1, math.MaxInt}
	pick := func() int {
		if r.Intn(3) == 0 {
			return numbers[r.Intn(len(numbers))]
		}
		return r.Intn(12)
	}
	m := api.Move{Kind: api.MoveKind(pick()), A: pick(), B: pick() % 5, C: pick() % 3, Left: r.Intn(2) == 0, Over: r.Intn(2) == 0, Sign: r.Intn(5) - 2}
	if r.Intn(2) == 0 {
		m.C, m.Left, m.Over, m.Sign = 0, false, false, 0
	}
	return m
}

// P0.1, R2, R5: no arguments make a function panic, and with an error a result is a zero value.
func TestAnyValue(t *testing.T) {
	r := rand.New(rand.NewSource(23))
	all := append(samples(12), snake(402), snake(401), kinks(2, 101), kinks(2, 2000), api.Code{Fingers: 41}, api.Code{Fingers: math.MinInt, Letters: []api.Letter{{}}})
	for range 300 {
		c := copied(all[r.Intn(160)])
		if len(c.Letters) == 0 {
			continue
		}
		l := &c.Letters[r.Intn(len(c.Letters))]
		for _, field := range []*int{&l.Gate, &l.Rank, &l.ID, &l.Sign} {
			*field += []int{0, 0, 1, -1, math.MaxInt}[r.Intn(5)]
		}
		all = append(all, c)
	}
	for _, c := range all {
		e := code.Check(c)
		for range 60 {
			m, more := randomMove(r), randomMove(r)
			got, e1 := move.Apply(c, m)
			back, e2 := move.Inverse(c, m)
			end, n, e3 := move.Replay(c, []api.Move{m, more})
			undo, e4 := move.Undo(c, []api.Move{m, more})
			if e != api.OK && (e1 != e || e2 != e || e3 != e || e4 != e || n != 0) || e1 != e2 || e3 != e4 {
				t.Fatalf("%s, %v: the errors %d, %d, %d, %d, %d", code.Print(c), m, e, e1, e2, e3, e4)
			}
			zero := (e1 == api.OK || equal(got, api.Code{})) && (e2 == api.OK || back == api.Move{}) && (e3 == api.OK || equal(end, api.Code{})) && (e4 == api.OK || len(undo) == 0)
			if !zero || e1 == api.OK && code.Check(got) != api.OK {
				t.Fatalf("%s, %v: the results %s, %v, %s, %v", code.Print(c), m, code.Print(got), back, code.Print(end), undo)
			}
			move.Print(m)
			move.Slack(m.Kind)
			move.Opposite(m.Kind)
			move.Some(c, m.Kind, more.Kind)
		}
	}
	for range 5000 {
		var b strings.Builder
		b.WriteString(word(allKinds[r.Intn(10)]))
		for range r.Intn(9) {
			b.WriteString([]string{" ", "0", "1", "-", "+", "over", "under", "left", "right", "?", "\xff"}[r.Intn(11)])
		}
		if m, e := move.Parse(b.String()); e == api.OK && move.Print(m) != b.String() || e != api.OK && m != (api.Move{}) {
			t.Errorf("Parse(%q): %v, %d", b.String(), m, e)
		}
	}
}
