package sign_test

import (
	"maps"
	"slices"
	"strings"
	"testing"

	"catscradle/api"
	"catscradle/code"
	"catscradle/ease"
	"catscradle/line"
	"catscradle/sign"
)

// end is an end of an edge.
type end struct {
	edge int
	last bool
}

// joints returns which ends of edges are joined at which letters, if a tells which crossings get the A smoothing.
func joints(c api.Code, a []bool) map[end]end {
	n := len(c.Letters)
	joined := map[end]end{}
	join := func(one, two end) {
		joined[one], joined[two] = two, one
	}
	for p, l := range c.Letters {
		before := end{(p + n - 1) % n, true}
		if l.Kind == api.Pass {
			join(before, end{p, false})
			continue
		}
		q := slices.IndexFunc(c.Letters, func(o api.Letter) bool { return o.ID == l.ID && o.Over != l.Over })
		straight := l.Sign == 1
		if !a[l.ID-1] {
			straight = !straight
		}
		if straight {
			join(before, end{q, false})
		} else {
			join(before, end{(q + n - 1) % n, true})
			join(end{p, false}, end{q, false})
		}
	}
	return joined
}

// slowCurves follows the definition to the letter: it travels along each edge, and notes the passes that go down and up.
func slowCurves(t *testing.T, c api.Code, a []bool) [][]int {
	t.Helper()
	n := len(c.Letters)
	if n == 0 {
		return [][]int{{}}
	}
	downs := map[int]bool{}
	for i, l := range c.Letters {
		if l.Kind == api.Pass {
			downs[i] = len(downs)%2 == 0
		}
	}
	joined := joints(c, a)
	met := map[int]bool{}
	var all [][]int
	for first := range n {
		if met[first] {
			continue
		}
		var gates []int
		var down []bool
		for at := (end{first, false}); !met[at.edge]; {
			met[at.edge] = true
			at.last = !at.last
			letter := at.edge
			if at.last {
				letter = (at.edge + 1) % n
			}
			if goes, is := downs[letter]; is {
				gates = append(gates, c.Letters[letter].Gate)
				down = append(down, goes == at.last)
			}
			at = joined[at]
		}
		if i := slices.Index(down, true); i > 0 {
			gates = slices.Concat(gates[i:], gates[:i])
		}
		all = append(all, normal(t, gates))
	}
	slices.SortFunc(all, wordOrder)
	return all
}

// wordOrder is the order of words.
func wordOrder(a, b []int) int {
	if len(a) != len(b) {
		return len(a) - len(b)
	}
	return slices.Compare(a, b)
}

// sums are the coefficients of each exponent, by printed words; none is 0.
type sums map[string]map[int]int

func (s sums) add(words [][]int, exponent, n int) {
	key := printed(words)
	if s[key] == nil {
		s[key] = map[int]int{}
	}
	s[key][exponent] += n
	if s[key][exponent] == 0 {
		delete(s[key], exponent)
	}
	if len(s[key]) == 0 {
		delete(s, key)
	}
}

// printed returns words as a string, in their order.
func printed(words [][]int) string {
	words = slices.SortedFunc(slices.Values(words), wordOrder)
	var parts []string
	for _, w := range words {
		parts = append(parts, line.Print(w))
	}
	return strings.Join(parts, ",")
}

// addLooped adds a product of words and a monomial, multiplied by a power of -A^2 - A^-2.
func (s sums) addLooped(words [][]int, exponent, n, loops int) {
	if loops == 0 {
		s.add(words, exponent, n)
		return
	}
	s.addLooped(words, exponent+2, -n, loops-1)
	s.addLooped(words, exponent-2, -n, loops-1)
}

// expand returns the sums that a list of terms stands for.
func expand(l []api.Term) sums {
	s := sums{}
	for _, term := range l {
		for i, n := range term.Coeffs {
			s.add(term.Words, term.Low+i, n)
		}
	}
	return s
}

func equalSums(a, b sums) bool {
	return maps.EqualFunc(a, b, maps.Equal[map[int]int, map[int]int])
}

// choices returns all lists of n truth values.
func choices(n int) [][]bool {
	all := [][]bool{nil}
	for range n {
		var longer [][]bool
		for _, l := range all {
			longer = append(longer, append(slices.Clone(l), true), append(slices.Clone(l), false))
		}
		all = longer
	}
	return all
}

// slowBracket follows the definition to the letter, and multiplies by a monomial.
func slowBracket(t *testing.T, c api.Code, exponent, n int) sums {
	t.Helper()
	s := sums{}
	for _, a := range choices(code.Crossings(c)) {
		power, loops := exponent, 0
		for _, is := range a {
			if is {
				power++
			} else {
				power--
			}
		}
		var words [][]int
		for _, w := range slowCurves(t, c, a) {
			if len(w) == 0 {
				loops++
			} else {
				words = append(words, w)
			}
		}
		s.addLooped(words, power, n, loops)
	}
	return s
}

// properly fails if a list is not proper, as the definitions say.
func properly(t *testing.T, l []api.Term) {
	t.Helper()
	for i, term := range l {
		n := len(term.Coeffs)
		good := n > 0 && term.Coeffs[0] != 0 && term.Coeffs[n-1] != 0 && slices.IsSortedFunc(term.Words, wordOrder)
		for _, w := range term.Words {
			good = good && len(w) > 0 && slices.Equal(normal(t, w), w)
		}
		if i > 0 {
			good = good && listOrder(l[i-1].Words, term.Words) < 0
		}
		if !good || !sign.Proper(l) {
			t.Fatalf("%s is not proper", sign.Print(l))
		}
	}
}

// listOrder is the order of lists of words.
func listOrder(a, b [][]int) int {
	if len(a) != len(b) {
		return len(a) - len(b)
	}
	for i := range a {
		if order := wordOrder(a[i], b[i]); order != 0 {
			return order
		}
	}
	return 0
}

// P5.1: Curves, compared with the definition.
func TestCurvesSlow(t *testing.T) {
	for _, c := range samples() {
		all := choices(code.Crossings(c))
		for i := 0; i < len(all); i += 1 + len(all)/40 {
			want := slowCurves(t, c, all[i])
			if got, e := sign.Curves(c, all[i]); e != api.OK || !slices.EqualFunc(got, want, slices.Equal[[]int]) {
				t.Fatalf("Curves(%s, %v): %v, %d, not %v", code.Print(c), all[i], got, e, want)
			}
		}
	}
}

// P5.2, P5.3: Bracket, compared with the definition.
func TestBracketSlow(t *testing.T) {
	knotted := 0
	for _, c := range samples() {
		got := bracket(t, c)
		properly(t, got)
		if want := slowBracket(t, c, 0, 1); !equalSums(expand(got), want) {
			t.Fatalf("Bracket(%s): %s, not %v", code.Print(c), sign.Print(got), want)
		}
		if len(got) > 1 {
			knotted++
		}
	}
	if knotted < 20 {
		t.Errorf("%d brackets of several terms", knotted)
	}
}

// P5.2, P5.3: Sign, compared with the definition.
func TestSignSlow(t *testing.T) {
	for _, c := range samples() {
		reduced, _, e := ease.Reduce(c)
		if e != api.OK {
			t.Fatal(e)
		}
		w, n := must[int](t)(sign.Writhe(reduced)), 1
		if w%2 != 0 {
			n = -1
		}
		got := must[[]api.Term](t)(sign.Sign(c))
		properly(t, got)
		if want := slowBracket(t, reduced, -3*w, n); !equalSums(expand(got), want) {
			t.Fatalf("Sign(%s): %s, not %v", code.Print(c), sign.Print(got), want)
		}
	}
}
