package sign_test

import (
	"math"
	"math/rand"
	"slices"
	"testing"

	"catscradle/api"
	"catscradle/code"
	"catscradle/sign"
)

// answers are the results of all calls that return memory, for a code, another one, choices of smoothings, and terms.
type answers struct {
	curves  [][]int
	terms   [][]api.Term
	kept    api.Code
	witness api.Witness
	verdict api.Verdict
}

func ask(a, b api.Code, choice []bool, l []api.Term) answers {
	var all answers
	all.curves, _ = sign.Curves(a, choice)
	note := func(l []api.Term, _ api.Errno) { all.terms = append(all.terms, l) }
	note(sign.Bracket(a))
	note(sign.Sign(a))
	for _, f := range changes() {
		note(f(l))
	}
	all.kept, _ = sign.Keep(a, slices.Repeat([]int{1}, min(a.Fingers, 1))...)
	all.witness, _ = sign.Unlike(a, b)
	all.verdict, _ = sign.Judge(a, b, 5)
	sign.Check(a, b, all.witness)
	sign.Proper(l)
	sign.Print(l)
	sign.Equal(l, l)
	return all
}

func (a answers) equal(b answers) bool {
	return slices.EqualFunc(a.curves, b.curves, slices.Equal[[]int]) && slices.EqualFunc(a.terms, b.terms, sign.Equal) && equal(a.kept, b.kept) && equalWitnesses(a.witness, b.witness) && equalVerdicts(a.verdict, b.verdict)
}

// numbers are all lists of numbers in the results.
func (a answers) numbers() [][]int {
	l := append(slices.Clone(a.curves), a.witness.Fingers, a.verdict.Witness.Fingers)
	for _, terms := range a.terms {
		l = append(l, numbersOf(terms)...)
	}
	return l
}

// numbersOf returns all lists of numbers in some terms.
func numbersOf(l []api.Term) [][]int {
	var all [][]int
	for _, term := range l {
		all = append(all, term.Coeffs)
		all = append(all, term.Words...)
	}
	return all
}

// spoil overwrites a list, and what may lie behind it.
func spoil[T any](l []T, item T) {
	l = l[:cap(l)]
	for i := range l {
		l[i] = item
	}
}

// spoil overwrites all results.
func (a answers) spoil() {
	for _, l := range a.numbers() {
		spoil(l, -77)
	}
	spoil(a.kept.Letters, api.Letter{Gate: -7})
	spoil(a.verdict.Joint.Left, api.Move{})
	spoil(a.verdict.Joint.Right, api.Move{})
	for _, l := range a.terms {
		spoil(l, api.Term{})
	}
}

// R4, R8: arguments are neither changed nor kept, and equal calls have equal results.
func TestMemory(t *testing.T) {
	r := rand.New(rand.NewSource(37))
	all := samples()
	for i, c := range all {
		a, b := copiedCode(c), all[(i+1)%len(all)]
		if r.Intn(2) == 0 {
			b = shaken(r, c, 20, 34, 9, slackKinds()...)
		}
		choice := make([]bool, code.Crossings(c))
		l := randomTerms(t, r, 2)
		given := copiedTerms(l)
		one, two := ask(a, b, choice, l), ask(a, b, choice, l)
		if !equal(a, c) || slices.Contains(choice, true) || !sign.Equal(l, given) || !one.equal(two) {
			t.Fatalf("an argument or a result is changed: %s, %s", code.Print(c), sign.Print(given))
		}
		spoil(a.Letters, api.Letter{})
		for _, w := range numbersOf(l) {
			spoil(w, -5)
		}
		two.spoil()
		if three := ask(copiedCode(c), b, choice, given); !one.equal(three) {
			t.Fatalf("results share memory: %s, %s", code.Print(c), sign.Print(given))
		}
	}
}

// R4: the lists of one result share no memory with each other.
func TestMemoryOfLists(t *testing.T) {
	for _, c := range samples() {
		results := answers{terms: [][]api.Term{bracket(t, c)}}
		results.curves, _ = sign.Curves(c, make([]bool, code.Crossings(c)))
		all := results.numbers()
		for i, l := range all {
			want := slices.Clone(l)
			for j, other := range all {
				if i != j {
					saved := slices.Clone(other)
					spoil(other[:len(other):len(other)], -9)
					spoil(other[len(other):], -9)
					if !slices.Equal(l, want) {
						t.Fatalf("lists of %s share memory", code.Print(c))
					}
					copy(other, saved)
				}
			}
		}
	}
}

// R3: nil and empty lists are the same.
func TestEmpty(t *testing.T) {
	none, empty := api.Code{Fingers: 2}, api.Code{Fingers: 2, Letters: []api.Letter{}}
	if !ask(none, empty, nil, nil).equal(ask(empty, none, []bool{}, []api.Term{})) {
		t.Error("the bare loop")
	}
	one, two := []api.Term{{Coeffs: []int{1}}}, []api.Term{{Words: [][]int{}, Coeffs: []int{1}}}
	if !sign.Equal(one, two) || !sign.Equal(nil, []api.Term{}) || !sign.Proper(two) || !sign.Proper(nil) || !sign.Proper([]api.Term{}) {
		t.Error("terms")
	}
	if !sign.Equal([]api.Term{{Words: [][]int{nil}}}, []api.Term{{Words: [][]int{{}}, Coeffs: []int{}}}) {
		t.Error("words")
	}
	if sign.Print(one) != sign.Print(two) || sign.Print(nil) != sign.Print([]api.Term{}) {
		t.Error("Print")
	}
	w := api.Witness{Kind: api.WitnessSign, Fingers: []int{}}
	trefoil := must[api.Code](t)(code.Forget(braid(2, 1, 1, 1), 1))
	if !sign.Check(trefoil, api.Code{}, w) || !sign.Check(trefoil, api.Code{}, api.Witness{Kind: api.WitnessSign}) {
		t.Error("Check")
	}
	if c, e := sign.Keep(none, []int{}...); e != api.OK || !equal(c, api.Code{}) {
		t.Error(c, e)
	}
}

// errorsOf returns the errors of all calls for codes, with zero values as results if there is an error.
func errorsOf(t *testing.T, a, b api.Code, limit int) map[string]api.Errno {
	t.Helper()
	writhe, e1 := sign.Writhe(a)
	curves, e2 := sign.Curves(a, make([]bool, code.Crossings(a)))
	terms, e3 := sign.Bracket(a)
	others, e4 := sign.Sign(a)
	kept, e5 := sign.Keep(a)
	w, e6 := sign.Unlike(a, b)
	v, e7 := sign.Judge(a, b, limit)
	if e1 != api.OK && writhe != 0 || e2 != api.OK && len(curves) > 0 || e3 != api.OK && len(terms) > 0 || e4 != api.OK && len(others) > 0 {
		t.Errorf("a result with an error: %s", code.Print(a))
	}
	if e5 != api.OK && !equal(kept, api.Code{}) || e6 != api.OK && !equalWitnesses(w, api.Witness{}) || e7 != api.OK && !equalVerdicts(v, api.Verdict{}) {
		t.Errorf("a result with an error: %s, %s", code.Print(a), code.Print(b))
	}
	return map[string]api.Errno{"Writhe": e1, "Curves": e2, "Bracket": e3, "Sign": e4, "Keep": e5, "Unlike": e6, "Judge": e7}
}

// R1, R2: the errors and their order.
func TestErrors(t *testing.T) {
	good, other := read(t, "2: 0.1 1.1"), read(t, "3: 0.1 1.1")
	long, far, bad := snake(402), api.Code{Fingers: 41}, api.Code{Fingers: 1, Letters: []api.Letter{pass(0, 1)}}
	for _, c := range []struct {
		a, b                 api.Code
		limit                int
		alone, unlike, judge api.Errno
	}{
		{good, good, 1, api.OK, api.ErrOpen, api.OK},
		{good, good, api.MaxClass, api.OK, api.ErrOpen, api.OK},
		{good, good, 0, api.OK, api.ErrOpen, api.ErrArg},
		{good, good, api.MaxClass + 1, api.OK, api.ErrOpen, api.ErrArg},
		{good, good, math.MinInt, api.OK, api.ErrOpen, api.ErrArg},
		{good, read(t, "2: 0.1 2.1"), 0, api.OK, api.OK, api.ErrArg},
		{good, other, 1, api.OK, api.ErrArg, api.ErrArg},
		{good, far, 0, api.OK, api.ErrArg, api.ErrArg},
		{good, bad, 0, api.OK, api.ErrCode, api.ErrCode},
		{good, long, 0, api.OK, api.ErrLong, api.ErrLong},
		{bad, long, 0, api.ErrCode, api.ErrCode, api.ErrCode},
		{far, long, 0, api.ErrArg, api.ErrArg, api.ErrArg},
		{long, bad, 0, api.ErrLong, api.ErrLong, api.ErrLong},
		{kinks(2, 101), good, 1, api.ErrLong, api.ErrLong, api.ErrLong},
	} {
		for name, e := range errorsOf(t, c.a, c.b, c.limit) {
			want := c.alone
			switch name {
			case "Unlike":
				want = c.unlike
			case "Judge":
				want = c.judge
			}
			if e != want {
				t.Errorf("%s(%s, %s, %d): the error %d, not %d", name, code.Print(c.a), code.Print(c.b), c.limit, e, want)
			}
		}
	}
	// The code comes before the other arguments.
	if _, e := sign.Curves(bad, []bool{true, false}); e != api.ErrCode {
		t.Error(e)
	}
	if _, e := sign.Keep(bad, 7); e != api.ErrCode {
		t.Error(e)
	}
	if _, e := sign.Keep(long, 7); e != api.ErrLong {
		t.Error(e)
	}
	// A code that is not valid is that, however many crossings it has.
	if _, e := sign.Bracket(api.Code{Letters: make([]api.Letter, 60)}); e != api.ErrCode {
		t.Error(e)
	}
	if _, e := sign.Bracket(api.Code{Fingers: 41, Letters: kinks(2, 20).Letters}); e != api.ErrArg {
		t.Error(e)
	}
}

// P0.1, R2, R5: no arguments make a function panic, and with an error a result is a zero value.
func TestAnyValue(t *testing.T) {
	r := rand.New(rand.NewSource(83))
	all := []api.Code{snake(402), snake(401), kinks(2, 101), kinks(2, 2000), {Fingers: math.MinInt}, {Fingers: math.MaxInt, Letters: []api.Letter{{}}}}
	for range 400 {
		c := copiedCode(samples()[r.Intn(len(samples()))])
		if len(c.Letters) > 0 {
			l := &c.Letters[r.Intn(len(c.Letters))]
			for _, field := range []*int{&l.Gate, &l.Rank, &l.ID, &l.Sign} {
				*field += []int{0, 0, 0, 0, 1, -1, math.MaxInt}[r.Intn(7)]
			}
		}
		all = append(all, c)
	}
	for _, a := range all {
		b := all[r.Intn(len(all))]
		limit := []int{math.MinInt, -1, 0, 1, 2, 5, 20001, math.MaxInt}[r.Intn(8)]
		want := code.Check(a)
		for name, e := range errorsOf(t, a, b, limit) {
			if want != api.OK && e != want {
				t.Fatalf("%s(%v): the error %d, not %d", name, a, e, want)
			}
		}
		w := api.Witness{Kind: api.WitnessKind(r.Intn(5) - 1), Fingers: []int{r.Intn(5) - 1, r.Intn(44)}[:r.Intn(3)]}
		if sign.Check(a, b, w) && (want != api.OK || code.Check(b) != api.OK || a.Fingers != b.Fingers) {
			t.Fatalf("Check accepts %v and %v", a, b)
		}
		sign.Keep(a, w.Fingers...)
		sign.Curves(a, make([]bool, r.Intn(12)))
	}
	for range 3000 {
		l := randomTerms(t, r, 3)
		for _, w := range numbersOf(l) {
			if len(w) > 0 && r.Intn(3) == 0 {
				w[r.Intn(len(w))] += []int{-1, 1, 40, math.MaxInt}[r.Intn(4)]
			}
		}
		if r.Intn(3) == 0 && len(l) > 1 {
			l[0], l[1] = l[1], l[0]
		}
		proper := sign.Proper(l)
		for i, e := range changeErrors(t, l) {
			if !proper && e != api.ErrArg {
				t.Fatalf("%s: the error %d of change %d", sign.Print(l), e, i)
			}
		}
		sign.Equal(l, l)
	}
}

// R7: a verdict has no witness if the codes are the same, and no joint if they are not.
func TestUnusedFields(t *testing.T) {
	for _, c := range couples(60) {
		v, _ := sign.Judge(c[0], c[1], 20)
		if v.Same && (v.Unlike || !equalWitnesses(v.Witness, api.Witness{})) || !v.Same && len(v.Joint.Left)+len(v.Joint.Right) > 0 || !v.Unlike && v.Witness.Kind != 0 {
			t.Fatal(v)
		}
	}
}
