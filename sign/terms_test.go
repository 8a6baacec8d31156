package sign_test

import (
	"math"
	"math/rand"
	"slices"
	"testing"

	"catscradle/api"
	"catscradle/line"
	"catscradle/sign"
)

// lists are proper lists, printed.
var lists = []string{
	"",
	"-: 0: 1",
	"-: -2: -1 0 0 0 -1",
	"0 1: 3: -1",
	"39 40: -7: 5 -5",
	"-: 1: 2; 0 1: -4: 1 1 1; 0 1,0 1: 0: -3; 0 1,0 2: 5: 1; 0 2,0 1 2 3: 0: 1; 0 1,0 1,0 1: 0: 9",
	"0 1: 0: 1; 0 2: 0: 1; 1 2: 0: 1; 0 1 2 3: 0: 1; 0 3 2 1: 0: 1",
	"0 1,0 1 0 2: 4: 1 0 0 7; 0 1,0 2 0 3: 4: 1; 0 2,0 2: 4: 1",
}

// improper are lists that are not proper.
var improper = map[string][]api.Term{
	"no coefficient":                {{}},
	"only a coefficient that is 0":  {{Coeffs: []int{0}}},
	"a first coefficient that is 0": {{Coeffs: []int{0, 1}}},
	"a last coefficient that is 0":  {{Coeffs: []int{1, 0}}},
	"an empty word":                 {{Words: [][]int{{}}, Coeffs: []int{1}}},
	"an odd word":                   {{Words: [][]int{{1}}, Coeffs: []int{1}}},
	"a word that is no normal form": {{Words: [][]int{{1, 0}}, Coeffs: []int{1}}},
	"a word that is not reduced":    {{Words: [][]int{{0, 1, 1, 2}}, Coeffs: []int{1}}},
	"a letter that is negative":     {{Words: [][]int{{-1, 1}}, Coeffs: []int{1}}},
	"a letter that is too great":    {{Words: [][]int{{0, 41}}, Coeffs: []int{1}}},
	"a letter without bounds":       {{Words: [][]int{{math.MinInt, math.MaxInt}}, Coeffs: []int{1}}},
	"a word that is too long":       {{Words: [][]int{slices.Repeat([]int{0, 1}, 201)}, Coeffs: []int{1}}},
	"a long word before short ones": {{Words: [][]int{{0, 1, 2, 3}, {0, 1}}, Coeffs: []int{1}}},
	"words that are out of order":   {{Words: [][]int{{0, 2}, {0, 1}}, Coeffs: []int{1}}},
	"two terms with no words":       {{Coeffs: []int{1}}, {Coeffs: []int{1}}},
	"two terms with equal words":    {{Words: [][]int{{0, 1}}, Coeffs: []int{1}}, {Words: [][]int{{0, 1}}, Low: 1, Coeffs: []int{1}}},
	"more words before fewer":       {{Words: [][]int{{0, 1}}, Coeffs: []int{1}}, {Coeffs: []int{1}}},
	"terms that are out of order":   {{Words: [][]int{{0, 2}, {0, 3}}, Coeffs: []int{1}}, {Words: [][]int{{0, 1}, {0, 4}}, Coeffs: []int{1}}},
	"long words before short ones":  {{Words: [][]int{{0, 1, 2, 3}}, Coeffs: []int{1}}, {Words: [][]int{{1, 2}}, Coeffs: []int{1}}},
	"a bad term after a good one":   {{Coeffs: []int{1}}, {Words: [][]int{{0, 1}}}},
	"a bad word after a good one":   {{Words: [][]int{{0, 1}, {0, 41}}, Coeffs: []int{1}}},
}

// P5.3: Proper.
func TestProper(t *testing.T) {
	for _, s := range lists {
		if !sign.Proper(readTerms(t, s)) {
			t.Errorf("Proper(%s) is false", s)
		}
	}
	for name, l := range improper {
		if sign.Proper(l) {
			t.Errorf("Proper is true for %s", name)
		}
	}
	long := api.Term{Words: [][]int{append(slices.Repeat([]int{0, 1}, 199), 0, 2)}, Low: math.MinInt, Coeffs: []int{math.MinInt, 0, math.MaxInt}}
	if !sign.Proper([]api.Term{long}) {
		t.Error("a long word")
	}
}

// P5.3: Equal, for any lists.
func TestEqual(t *testing.T) {
	all := [][]api.Term{
		{{}},
		{{}, {}},
		{{Low: 1}},
		{{Coeffs: []int{0}}},
		{{Coeffs: []int{0, 0}}},
		{{Words: [][]int{{}}}},
		{{Words: [][]int{{}, {}}}},
		{{Words: [][]int{{0}}}},
		{{Words: [][]int{{0}}, Low: math.MinInt}},
		{{Words: [][]int{{0, -1}}}},
		{{Words: [][]int{{0}, {-1}}}},
		{{Words: [][]int{{0, 1}}, Coeffs: []int{1}}, {Coeffs: []int{1}}},
		{{Coeffs: []int{1}}, {Words: [][]int{{0, 1}}, Coeffs: []int{1}}},
	}
	for _, s := range lists {
		all = append(all, readTerms(t, s))
	}
	for i, a := range all {
		for j, b := range all {
			if sign.Equal(copiedTerms(a), b) != (i == j) {
				t.Errorf("Equal(%s, %s) is %v", sign.Print(a), sign.Print(b), i != j)
			}
		}
	}
}

// P5.3: Print, for any lists.
func TestPrint(t *testing.T) {
	for _, c := range []struct {
		l    []api.Term
		want string
	}{
		{nil, ""},
		{[]api.Term{{}}, "-: 0:"},
		{[]api.Term{{}, {Low: -1}}, "-: 0:; -: -1:"},
		{[]api.Term{{Words: [][]int{{}}, Coeffs: []int{0}}}, "-: 0: 0"},
		{[]api.Term{{Words: [][]int{{}, {}, {7, -7}}, Coeffs: []int{-1, 20}}}, "-,-,7 -7: 0: -1 20"},
		{[]api.Term{{Words: [][]int{{0, 1}, {0, 1, 2, 10}}, Low: math.MinInt, Coeffs: []int{math.MaxInt}}}, "0 1,0 1 2 10: -9223372036854775808: 9223372036854775807"},
		{[]api.Term{{Low: -2, Coeffs: []int{-1, 0, 0, 0, -1}}}, "-: -2: -1 0 0 0 -1"},
		{[]api.Term{{Coeffs: []int{1}}, {Words: [][]int{{0, 1}}, Coeffs: []int{2}}, {Words: [][]int{{0, 2}}, Coeffs: []int{3}}}, "-: 0: 1; 0 1: 0: 2; 0 2: 0: 3"},
	} {
		if got := sign.Print(c.l); got != c.want {
			t.Errorf("Print(%v): %q, not %q", c.l, got, c.want)
		}
	}
}

// P5.4: examples.
func TestChanges(t *testing.T) {
	flip := sign.Flip
	mirror := func(k int) change {
		return func(l []api.Term) ([]api.Term, api.Errno) { return sign.Mirror(k, l) }
	}
	forget := func(k, f int) change {
		return func(l []api.Term) ([]api.Term, api.Errno) { return sign.Forget(k, l, f) }
	}
	at := func(a int) change {
		return func(l []api.Term) ([]api.Term, api.Errno) { return sign.At(l, a) }
	}
	for i, c := range []struct {
		change   change
		from, to string
	}{
		{flip, "0 1: 3: -1", "0 1: -3: -1"},
		{flip, "-: -2: 1 0 2 0 0 3; 0 1: 0: 4", "-: -3: 3 0 0 2 0 1; 0 1: 0: 4"},
		{flip, "", ""},
		{mirror(2), "0 1: 0: 1", "1 2: 0: 1"},
		{mirror(2), "0 1: 0: 1; 0 2: 1: 1 2; 1 2: 0: 3", "0 1: 0: 3; 0 2: 1: 1 2; 1 2: 0: 1"},
		{mirror(3), "0 1,0 2: 0: 1; 0 1,2 3: 0: 2", "0 1,2 3: 0: 2; 1 3,2 3: 0: 1"},
		{mirror(3), "0 1 2 3: 0: 1; 0 3 2 1: 0: 2", "0 1 2 3: 0: 1; 0 3 2 1: 0: 2"},
		{mirror(0), "-: 0: 1", "-: 0: 1"},
		{mirror(40), "0 1: 0: 1", "39 40: 0: 1"},
		{sign.Turn, "0 1: 0: 1; 0 1 2 3: 0: 1; 0 3 2 1: 0: 2", "0 1: 0: 1; 0 1 2 3: 0: 2; 0 3 2 1: 0: 1"},
		{forget(2, 1), "0 1: 0: 1", "-: -2: -1 0 0 0 -1"},
		{forget(2, 1), "-: 0: 1; 0 1: 0: 1; 0 2: 3: 5; 1 2: 0: 1", "-: -2: -1 0 1 0 -1; 0 1: 0: 1 0 0 5"},
		{forget(2, 2), "0 1: 0: 1; 0 2: 0: -1; 1 2: 0: 1", "-: -2: -1 0 0 0 -1"},
		{forget(1, 1), "0 1,0 1: 0: 1", "-: -4: 1 0 0 0 2 0 0 0 1"},
		{forget(1, 1), "-: 0: 1; 0 1: -1: 1; 0 1,0 1: 0: 1", "-: -4: 1 -1 0 0 3 -1 0 0 1"},
		{forget(1, 1), "-: 2: 1; 0 1: 0: 1", "-: -2: -1"},
		{forget(1, 1), "-: -2: 1 0 0 0 1; 0 1: 0: 1", ""},
		{forget(3, 2), "0 1,1 2: 0: 1; 0 1,1 3: 4: 1; 0 2,2 3: 4: -1", "0 1: -2: -1 0 0 0 -1"},
		{forget(3, 2), "0 1 2 3: 0: 1", "0 2: 0: 1"},
		{at(1), "-: -2: -1 0 0 0 -1; 0 1: 3: -1 2; 0 2: 0: 1 -1", "-: 0: -2; 0 1: 0: 1"},
		{at(-1), "-: -2: -1 0 0 0 -1", "-: 0: -2"},
		{at(-1), "-: -3: -1 0 0 2 -1; 0 1: 3: -1 2; 0 2: 0: 1 1; 0 3: 1: 7", "-: 0: 4; 0 1: 0: 3; 0 3: 0: -7"},
		{at(-1), "", ""},
	} {
		got, e := c.change(readTerms(t, c.from))
		if e != api.OK || sign.Print(got) != c.to {
			t.Errorf("%d: %s becomes %s, %d, not %s", i, c.from, sign.Print(got), e, c.to)
		}
		properly(t, got)
	}
}

// change is a change of a list of terms.
type change func([]api.Term) ([]api.Term, api.Errno)

// P5.4: lists that are not proper, and arguments out of range.
func TestChangeErrors(t *testing.T) {
	for name, l := range improper {
		for i, e := range changeErrors(t, l) {
			if e != api.ErrArg {
				t.Errorf("%s: the error %d of change %d", name, e, i)
			}
		}
	}
	good := readTerms(t, "0 1: 0: 1; 1 2,1 2: 0: 1")
	for i, e := range changeErrors(t, good) {
		if e != api.OK {
			t.Errorf("the error %d of change %d", e, i)
		}
	}
	for _, l := range [][]api.Term{good, nil} {
		for _, k := range []int{math.MinInt, -1, 41, math.MaxInt} {
			wrong(t, sign.Mirror, k, l)
			for _, f := range []int{-1, 0, 1, 41, k} {
				wrong(t, forgets(f), k, l)
			}
		}
		for _, f := range []int{math.MinInt, -1, 0, 3, 41, math.MaxInt} {
			wrong(t, forgets(f), 2, l)
		}
		for _, a := range []int{math.MinInt, -2, 0, 2, math.MaxInt} {
			wrong(t, func(a int, l []api.Term) ([]api.Term, api.Errno) { return sign.At(l, a) }, a, l)
		}
		wrong(t, forgets(1), 0, l)
		wrong(t, forgets(0), 0, l)
	}
	// A word needs all of its gates.
	wrong(t, sign.Mirror, 1, good)
	wrong(t, sign.Mirror, 0, good)
	wrong(t, forgets(1), 1, good)
	if l, e := sign.Mirror(0, nil); e != api.OK || len(l) > 0 {
		t.Error(l, e)
	}
	if l, e := sign.Forget(1, nil, 1); e != api.OK || len(l) > 0 {
		t.Error(l, e)
	}
}

// forgets returns Forget of a finger.
func forgets(f int) func(int, []api.Term) ([]api.Term, api.Errno) {
	return func(k int, l []api.Term) ([]api.Term, api.Errno) { return sign.Forget(k, l, f) }
}

// wrong fails unless a call returns ErrArg alone.
func wrong(t *testing.T, f func(int, []api.Term) ([]api.Term, api.Errno), n int, l []api.Term) {
	t.Helper()
	if got, e := f(n, l); e != api.ErrArg || len(got) > 0 {
		t.Errorf("%d, %s: %s, %d", n, sign.Print(l), sign.Print(got), e)
	}
}

// changes are all changes of terms with words for 2 fingers.
func changes() []change {
	return []change{
		sign.Flip,
		sign.Turn,
		func(l []api.Term) ([]api.Term, api.Errno) { return sign.Mirror(2, l) },
		func(l []api.Term) ([]api.Term, api.Errno) { return sign.Forget(2, l, 1) },
		func(l []api.Term) ([]api.Term, api.Errno) { return sign.Forget(2, l, 2) },
		func(l []api.Term) ([]api.Term, api.Errno) { return sign.At(l, 1) },
		func(l []api.Term) ([]api.Term, api.Errno) { return sign.At(l, -1) },
	}
}

// changeErrors returns the errors of all changes. With an error, there must be no terms.
func changeErrors(t *testing.T, l []api.Term) []api.Errno {
	t.Helper()
	var all []api.Errno
	for i, f := range changes() {
		got, e := f(l)
		if e != api.OK && len(got) > 0 {
			t.Errorf("change %d returns terms and the error %d", i, e)
		}
		all = append(all, e)
	}
	return all
}

// randomTerms returns a proper list with words for k fingers.
func randomTerms(t *testing.T, r *rand.Rand, k int) []api.Term {
	t.Helper()
	s := sums{}
	words := map[string][][]int{}
	for range r.Intn(7) {
		var l [][]int
		for range r.Intn(4) {
			var w []int
			for range 2 * (1 + r.Intn(3)) {
				w = append(w, r.Intn(k+1))
			}
			if w = normal(t, w); len(w) > 0 {
				l = append(l, w)
			}
		}
		words[printed(l)] = l
		for range 1 + r.Intn(4) {
			s.add(l, r.Intn(9)-4, r.Intn(5)-2)
		}
	}
	return s.terms(words)
}

// terms returns the sums as a proper list. For each printed list of words, the words are given.
func (s sums) terms(words map[string][][]int) []api.Term {
	var l []api.Term
	for key, powers := range s {
		low, high := math.MaxInt, math.MinInt
		for exponent := range powers {
			low, high = min(low, exponent), max(high, exponent)
		}
		term := api.Term{Words: slices.SortedFunc(slices.Values(words[key]), wordOrder), Low: low}
		for exponent := low; exponent <= high; exponent++ {
			term.Coeffs = append(term.Coeffs, powers[exponent])
		}
		l = append(l, term)
	}
	slices.SortFunc(l, func(a, b api.Term) int { return listOrder(a.Words, b.Words) })
	return l
}

// slowChange changes each word and each power of each term, and adds what results.
func slowChange(t *testing.T, l []api.Term, word func([]int) []int, power func(int) (int, int)) sums {
	t.Helper()
	s := sums{}
	for _, term := range l {
		var words [][]int
		loops := 0
		for _, w := range term.Words {
			if w = word(w); len(w) > 0 {
				words = append(words, w)
			} else {
				loops++
			}
		}
		for i, n := range term.Coeffs {
			exponent, factor := power(term.Low + i)
			s.addLooped(words, exponent, n*factor, loops)
		}
	}
	return s
}

// P5.4: all changes, compared with their definitions.
func TestChangesSlow(t *testing.T) {
	r := rand.New(rand.NewSource(13))
	stay := func(w []int) []int { return w }
	keep := func(exponent int) (int, int) { return exponent, 1 }
	merged := 0
	for range 400 {
		k := 1 + r.Intn(4)
		l := randomTerms(t, r, k)
		properly(t, l)
		compare := func(name string, want sums, got []api.Term, e api.Errno) {
			if e != api.OK || !equalSums(expand(got), want) {
				t.Fatalf("%s of %s: %s, %d, not %v", name, sign.Print(l), sign.Print(got), e, want)
			}
			properly(t, got)
			if len(got) < len(l) {
				merged++
			}
		}
		got, e := sign.Flip(l)
		compare("Flip", slowChange(t, l, stay, func(exponent int) (int, int) { return -exponent, 1 }), got, e)
		got, e = sign.Mirror(k, l)
		compare("Mirror", slowChange(t, l, func(w []int) []int { return normal(t, must[[]int](t)(line.Mirror(k, w))) }, keep), got, e)
		got, e = sign.Turn(l)
		compare("Turn", slowChange(t, l, func(w []int) []int { return normal(t, must[[]int](t)(line.Turn(w))) }, keep), got, e)
		for f := 1; f <= k; f++ {
			got, e = sign.Forget(k, l, f)
			compare("Forget", slowChange(t, l, func(w []int) []int { return must[[]int](t)(line.Forget(k, w, f)) }, keep), got, e)
		}
		got, e = sign.At(l, 1)
		compare("At 1", slowChange(t, l, stay, func(int) (int, int) { return 0, 1 }), got, e)
		got, e = sign.At(l, -1)
		compare("At -1", slowChange(t, l, stay, func(exponent int) (int, int) { return 0, 1 - 2*(exponent&1) }), got, e)
	}
	if merged < 50 {
		t.Error(merged)
	}
}

// R5, P0.1: exponents and coefficients without bounds. The results are proper, if there are any; a result that no memory holds is refused.
func TestGreatNumbers(t *testing.T) {
	numbers := []int{math.MinInt, math.MinInt + 1, math.MinInt + 6, -1 << 62, -1, 0, 3, 1 << 62, math.MaxInt - 6, math.MaxInt - 1, math.MaxInt}
	words := [][][]int{nil, {{0, 1}}, {{0, 2}}, {{1, 2}}, {{0, 1}, {0, 1}}, {{0, 1}, {0, 2}}, {{0, 2}, {0, 2}}}
	r := rand.New(rand.NewSource(17))
	for range 5000 {
		var l []api.Term
		for _, list := range words {
			if r.Intn(2) == 0 {
				continue
			}
			term := api.Term{Words: list, Low: numbers[r.Intn(len(numbers))]}
			for range 1 + r.Intn(15) {
				term.Coeffs = append(term.Coeffs, numbers[r.Intn(len(numbers))])
			}
			if ends := term.Coeffs; ends[0] == 0 || ends[len(ends)-1] == 0 {
				term.Coeffs = []int{numbers[r.Intn(5)]}
			}
			l = append(l, term)
		}
		for i, e := range changeErrors(t, l) {
			got, _ := changes()[i](l)
			properly(t, got)
			if e != api.OK && (e != api.ErrLong || i != 3 && i != 4) {
				t.Fatalf("%s: the error %d of change %d", sign.Print(l), e, i)
			}
		}
	}
	far := readTerms(t, "0 1: 0: 1; 0 2: 1000000000000: 1")
	if l, e := sign.Forget(2, far, 2); e != api.ErrLong || len(l) > 0 {
		t.Error(len(l), e)
	}
	// What is far apart may cancel out.
	far = readTerms(t, "0 2: 5: 1; 1 2: 1000000000000: 1; 0 1 0 2: 1000000000000: -1")
	if l, e := sign.Forget(2, far, 1); e != api.OK || sign.Print(l) != "0 1: 5: 1" {
		t.Error(sign.Print(l), e)
	}
}
