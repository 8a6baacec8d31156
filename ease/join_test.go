package ease_test

import (
	"math/rand"
	"slices"
	"testing"

	"catscradle/api"
	"catscradle/code"
	"catscradle/ease"
	"catscradle/line"
	"catscradle/move"
)

// joint reads the moves of a joint.
func joint(t *testing.T, left, right string) api.Joint {
	t.Helper()
	return api.Joint{Left: readMoves(t, left), Right: readMoves(t, right)}
}

// P4.4: examples.
func TestJoin(t *testing.T) {
	for _, c := range []struct {
		a, b        string
		limit       int
		left, right string
		e           api.Errno
	}{
		{"2: 0.1 1o+ 1u+ 1.1", "2: 1.1 0.1", 10, "loop-cut 1", "", api.OK},
		{"2: 1.1 0.1", "2: 0.1 1o+ 1u+ 1.1", 10, "", "loop-cut 1", api.OK},
		{"1: 0.1 0.2", "1: 1.1 1.2", 1, "axis-cut 0", "axis-cut 0", api.OK},
		{"2: 0.1 1.1", "2: 0.1 2.1", 10, "", "", api.ErrOpen},
		{"1:", "1:", 1, "", "", api.OK},
		{"1: 0.1 1u+ 1.1 0.2 1o+ 1.2", "1: 0.1 1.2 1u+ 0.2 1.1 1o+", 2, "axis-slide 0 3", "", api.OK},
		{"1: 0.1 1u+ 1.1 0.2 1o+ 1.2", "1: 0.1 1.2 1u+ 0.2 1.1 1o+", 1, "", "", api.ErrOpen},
		{"1:", "2:", 1, "", "", api.ErrArg},
	} {
		j, e := ease.Join(read(t, c.a), read(t, c.b), c.limit)
		if show(j.Left) != c.left || show(j.Right) != c.right || e != c.e {
			t.Errorf("Join(%s, %s, %d): %s; %s; %d", c.a, c.b, c.limit, show(j.Left), show(j.Right), e)
		}
	}
}

// P4.4: what joints show.
func TestCheck(t *testing.T) {
	for _, c := range []struct {
		a, b        string
		left, right string
		want        bool
	}{
		{"2: 0.1 1.1", "2: 0.1 2.1", "", "", false},
		{"2: 0.1 1.1", "2: 1.1 0.1", "", "", true},
		{"1:", "1:", "", "", true},
		{"1:", "2:", "", "", false},
		{"1: 0.1 0.2", "2: 0.1 0.2", "axis-cut 0", "axis-cut 0", false},
		{"2: 0.1 1o+ 1u+ 1.1", "2: 1.1 0.1", "loop-cut 1", "", true},
		{"2: 0.1 1o+ 1u+ 1.1", "2: 1.1 0.1", "", "loop-cut 1", false},
		// The moves are replayed on the normal form, which begins with 0.1.
		{"2: 1.2 2.1 0.1 1o+ 1u+ 1.1", "2: 0.1 1.1 1.2 2.1", "loop-cut 1", "", true},
		{"2: 1.2 2.1 0.1 1o+ 1u+ 1.1", "2: 0.1 1.1 1.2 2.1", "loop-cut 3", "", false},
		{"2: 1.2 2.1 0.1 1.1", "2: 1.2 2.1 0.1 1o+ 1u+ 1.1", "", "loop-cut 1", true},
		{"2: 1.2 2.1 0.1 1.1", "2: 1.2 2.1 0.1 1o+ 1u+ 1.1", "", "loop-cut 3", false},
		{"2: 0.1 1.1", "2: 0.1 1o+ 1u+ 1.1", "loop-make 0 over +", "", true},
		{"2: 0.1 1.1", "2: 0.1 1o+ 1u+ 1.1", "loop-make 0 over -", "", false},
		// Tips are not allowed, not even back and forth.
		{"2: 0.1 1.1", "2: 0.1 2.1", "tip-right 1", "", false},
		{"2: 0.1 1.1", "2: 0.1 2.1", "", "tip-left 1", false},
		{"2: 0.1 1.1", "2: 0.1 1.1", "tip-right 1, tip-left 1", "", false},
		{"2: 0.1 1.1", "2: 0.1 1.1", "", "tip-right 1, tip-left 1", false},
		// Moves that are not possible lead nowhere.
		{"2: 0.1 1.1", "2: 0.1 1.1", "loop-cut 0", "loop-cut 0", false},
		{"2: 0.1 1.1", "2: 0.1 1.1", "loop-cut 0", "", false},
		{"2: 0.1 1.1", "2: 0.1 1.1", "", "axis-cut 7", false},
		{"2: 0.1 1.1", "2: 0.1 1.1", "axis-make 0 0 0, axis-cut 0", "loop-make 1 over -, loop-cut 2", true},
	} {
		j := joint(t, c.left, c.right)
		if got := ease.Check(read(t, c.a), read(t, c.b), j); got != c.want {
			t.Errorf("Check(%s, %s; %s; %s): %v", c.a, c.b, c.left, c.right, got)
		}
	}
	if bad := (api.Code{Fingers: -1}); ease.Check(bad, bad, api.Joint{}) || ease.Check(bad, api.Code{}, api.Joint{}) || ease.Check(api.Code{}, bad, api.Joint{}) {
		t.Error("codes that are not valid")
	}
	for _, kind := range []api.MoveKind{-1, 0, 11} {
		if j := (api.Joint{Left: []api.Move{{Kind: kind}}}); ease.Check(api.Code{}, api.Code{}, j) {
			t.Errorf("the kind %d", kind)
		}
	}
}

// exchanged returns a joint for the codes in the other order.
func exchanged(j api.Joint) api.Joint {
	return api.Joint{Left: j.Right, Right: j.Left}
}

// relatives returns a code and what slack moves make of it.
func relatives(r *rand.Rand, n, letters int) []api.Code {
	all := []api.Code{wander(r, 80, letters)}
	for len(all) < n {
		all = append(all, loosened(r, all[0], 60, letters+6))
	}
	return all
}

// P4.4, P0.3: Join returns the paths of the forms, and Check accepts them in both orders.
func TestJoinForms(t *testing.T) {
	r := rand.New(rand.NewSource(47))
	joined, open := 0, 0
	for i := range 300 {
		l := relatives(r, 2, 12)
		a, b := l[0], l[1]
		for i%2 == 1 && (b.Fingers != a.Fingers || equal(b, l[1])) {
			b = wander(r, 80, 12)
		}
		limit := []int{1, 3, 30}[i%3]
		one, two := must[api.Form](t)(ease.Make(a, limit)), must[api.Form](t)(ease.Make(b, limit))
		j, e := ease.Join(a, b, limit)
		if !equal(one.Code, two.Code) {
			open++
			if e != api.ErrOpen || len(j.Left)+len(j.Right) > 0 || ease.Check(a, b, api.Joint{Left: one.Path, Right: two.Path}) {
				t.Fatalf("Join(%s, %s, %d): %s; %s; %d", code.Print(a), code.Print(b), limit, show(j.Left), show(j.Right), e)
			}
			continue
		}
		joined++
		if e != api.OK || !slices.Equal(j.Left, one.Path) || !slices.Equal(j.Right, two.Path) {
			t.Fatalf("Join(%s, %s, %d): %s; %s; %d", code.Print(a), code.Print(b), limit, show(j.Left), show(j.Right), e)
		}
		if !ease.Check(a, b, j) || !ease.Check(b, a, exchanged(j)) || !ease.Check(renumbered(b), must[api.Code](t)(code.Back(a)), exchanged(j)) {
			t.Fatalf("Check rejects Join(%s, %s, %d)", code.Print(a), code.Print(b), limit)
		}
	}
	if joined < 80 || open < 80 {
		t.Errorf("%d joints, %d without", joined, open)
	}
}

// P4.4: Check is as its section says, in both orders, also for moves that lead elsewhere.
func TestCheckLaws(t *testing.T) {
	r := rand.New(rand.NewSource(53))
	accepted := 0
	for range 60 {
		codes := relatives(r, 5, 10)
		var paths [][]api.Move
		for _, c := range codes {
			f := must[api.Form](t)(ease.Make(c, 8))
			paths = append(paths, f.Path)
		}
		accepts := func(i, j int) bool {
			return ease.Check(codes[i], codes[j], api.Joint{Left: paths[i], Right: paths[j]})
		}
		for i := range codes {
			for j := range codes {
				one, two := follow(t, normal(t, codes[i]), paths[i]), follow(t, normal(t, codes[j]), paths[j])
				want := must[bool](t)(code.Same(one, two))
				if accepts(i, j) != want || accepts(j, i) != want {
					t.Fatalf("Check(%s, %s; %s; %s)", code.Print(codes[i]), code.Print(codes[j]), show(paths[i]), show(paths[j]))
				}
				if want && i != j {
					accepted++
				}
				for d := range codes {
					if accepts(i, j) && accepts(j, d) && !accepts(i, d) {
						t.Fatalf("Check rejects %s and %s", code.Print(codes[i]), code.Print(codes[d]))
					}
				}
			}
		}
	}
	if accepted < 100 {
		t.Errorf("%d joints", accepted)
	}
}

// P4.4: a joint is the certificate for these codes alone.
func TestCheckSpoiled(t *testing.T) {
	r := rand.New(rand.NewSource(59))
	for range 80 {
		l := relatives(r, 2, 12)
		a, b := l[0], l[1]
		j, e := ease.Join(a, b, 30)
		if e != api.OK {
			continue
		}
		tips := must[[]api.Move](t)(move.Some(follow(t, normal(t, a), j.Left), api.TipRight, api.TipLeft))
		for _, m := range tips {
			if ease.Check(a, b, api.Joint{Left: append(slices.Clone(j.Left), m), Right: j.Right}) {
				t.Fatalf("Check accepts %s", move.Print(m))
			}
		}
		if len(j.Left) > 0 && ease.Check(a, b, api.Joint{Left: j.Left[:len(j.Left)-1], Right: j.Right}) {
			before := follow(t, normal(t, a), j.Left[:len(j.Left)-1])
			if !equal(normal(t, before), normal(t, follow(t, normal(t, b), j.Right))) {
				t.Fatalf("Check accepts %s without the last move", show(j.Left))
			}
		}
	}
}

// winding returns the winding numbers of the word of a code.
func winding(t *testing.T, c api.Code) []int {
	t.Helper()
	return must[[]int](t)(line.Winding(c.Fingers, must[[]int](t)(code.Word(c))))
}

// P4.6: words of codes that are joined, and their winding numbers up to the sign of all of them.
func TestJoinedWords(t *testing.T) {
	r := rand.New(rand.NewSource(61))
	joined := 0
	for range 200 {
		l := relatives(r, 2, 12)
		j, e := ease.Join(l[0], l[1], 30)
		if e != api.OK || !ease.Check(l[0], l[1], j) {
			continue
		}
		joined++
		one, two := must[[]int](t)(code.Word(l[0])), must[[]int](t)(code.Word(l[1]))
		if !slices.Equal(must[[]int](t)(line.Normal(one)), must[[]int](t)(line.Normal(two))) {
			t.Fatalf("%s and %s are joined", code.Print(l[0]), code.Print(l[1]))
		}
		around, also := winding(t, l[0]), winding(t, l[1])
		opposite := make([]int, len(also))
		for i, n := range also {
			opposite[i] = -n
		}
		if !slices.Equal(around, also) && !slices.Equal(around, opposite) {
			t.Fatalf("%s and %s are joined", code.Print(l[0]), code.Print(l[1]))
		}
	}
	if joined < 100 {
		t.Errorf("%d joints", joined)
	}
}
