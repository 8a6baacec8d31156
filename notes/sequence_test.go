package notes_test

import (
	"fmt"
	"math/rand"
	"regexp"
	"slices"
	"strings"
	"testing"

	"catscradle/api"
	"catscradle/code"
	"catscradle/hand"
	"catscradle/notes"
)

const (
	loopPattern  = namePattern + `\.` + numberPattern + `[<>]`
	crossPattern = numberPattern + `[ou]`
)

var sequencePattern = regexp.MustCompile(`^(bare|` + loopPattern + `( (` + loopPattern + `|` + crossPattern + `))*)$`)

// slowSequence writes the sequence of a posed code as defined. The number of a loop is found by counting the loops around it.
func slowSequence(fr api.Frame, c api.Code) string {
	if len(c.Letters) == 0 {
		return "bare"
	}
	type pair struct{ finger, left, right int }
	var all []pair
	at := map[int]pair{}
	down := false
	for i, l := range c.Letters {
		if l.Kind == api.Cross {
			continue
		}
		if down = !down; down {
			one, two := l, c.Letters[i+1]
			if one.Gate > two.Gate {
				one, two = two, one
			}
			at[i] = pair{two.Gate, one.Rank, two.Rank}
			all = append(all, at[i])
		}
	}
	var items []string
	for i, l := range c.Letters {
		p, isLoop := at[i]
		switch {
		case isLoop:
			number := 1
			for _, q := range all {
				if q.finger == p.finger && q.left < p.left && q.right > p.right {
					number++
				}
			}
			items = append(items, fmt.Sprintf("%s.%d%s", hand.Name(fr.Fingers[p.finger-1]), number, map[bool]string{true: ">", false: "<"}[l.Gate == p.finger-1]))
		case l.Kind == api.Cross:
			items = append(items, fmt.Sprintf("%d%s", l.ID, map[bool]string{true: "o", false: "u"}[l.Over]))
		}
	}
	return strings.Join(items, " ")
}

// family returns the posed codes that differ from a code in signs, in their order.
func family(fr api.Frame, c api.Code) []api.Code {
	var all []api.Code
	n := code.Crossings(c)
	signs := make([]int, n)
	var choose func(i int)
	choose = func(i int) {
		if i < n {
			for _, sign := range []int{-1, 1} {
				signs[i] = sign
				choose(i + 1)
			}
			return
		}
		d := copied(c)
		for i, l := range d.Letters {
			if l.Kind == api.Cross {
				d.Letters[i].Sign = signs[l.ID-1]
			}
		}
		if hand.Posed(fr, d) {
			all = append(all, d)
		}
	}
	choose(0)
	return all
}

// P7.3: the examples of the chapter, and others.
func TestSequenceExamples(t *testing.T) {
	fr := standard(t)
	for _, c := range []struct {
		want  string
		codes []string
	}{
		{"L1.1> R1.1>", []string{"10: 0.1 1.1 9.1 10.1"}},
		{"L1.1< 1u R1.1> 1o", []string{"10: 1.1 0.1 1u+ 9.1 10.1 1o+"}},
		{"L1.1>", []string{"10: 0.1 1.1"}},
		{"L1.1> L5.1> R5.1> R1.1>", []string{"10: 0.1 1.1 4.1 5.1 5.2 6.1 9.1 10.1"}},
		{"L1.1> 1u 1o", []string{"10: 0.1 1.1 1u- 1o-", "10: 0.1 1.1 1u+ 1o+"}},
		{"L2.2> L2.1>", nil},
		{"L2.2> 1o L2.1> 1u", []string{"10: 1.2 2.1 1o+ 1.1 2.2 1u+"}},
		{"L2.1> L3.1>", []string{"10: 1.1 2.1 2.2 3.1"}},
		{"bare", []string{"10:"}},
		{"L1.1> 1u R1.1> 1o", nil},
		{"L1.1> R1.1<", nil},
	} {
		got, e := notes.ReadSequence(fr, c.want)
		if len(c.codes) == 0 {
			if len(got) > 0 || e != api.ErrCode {
				t.Errorf("ReadSequence(%q): %v, %d", c.want, got, e)
			}
			continue
		}
		if len(got) != len(c.codes) || e != api.OK {
			t.Fatalf("ReadSequence(%q): %v, %d", c.want, got, e)
		}
		for i, s := range c.codes {
			if code.Print(got[i]) != s {
				t.Errorf("ReadSequence(%q): %s, not %s", c.want, code.Print(got[i]), s)
			}
			if got, e := notes.Sequence(fr, read(t, s)); got != c.want || e != api.OK {
				t.Errorf("Sequence of %s: %q, %d, not %q", s, got, e, c.want)
			}
			if n, e := notes.Signless(fr, read(t, s)); n != len(c.codes) || e != api.OK {
				t.Errorf("Signless of %s: %d, %d", s, n, e)
			}
		}
	}
}

// P7.3 and P7.5: sequences of many posed codes, their codes, and what these have in common.
func TestSequences(t *testing.T) {
	several := 0
	for _, s := range samples() {
		text, e := notes.Sequence(s.fr, s.c)
		if want := slowSequence(s.fr, s.c); text != want || e != api.OK {
			t.Fatalf("Sequence of %s: %q, %d, not %q", code.Print(s.c), text, e, want)
		}
		codes, e := notes.ReadSequence(s.fr, text)
		want := family(s.fr, s.c)
		if !slices.EqualFunc(codes, want, equal) || e != api.OK {
			t.Fatalf("ReadSequence(%q): %d codes, %d, not %d", text, len(codes), e, len(want))
		}
		if n, e := notes.Signless(s.fr, s.c); n != len(want) || e != api.OK {
			t.Fatalf("Signless of %s: %d, %d, not %d", code.Print(s.c), n, e, len(want))
		}
		if !slices.ContainsFunc(codes, func(c api.Code) bool { return equal(c, s.c) }) {
			t.Fatalf("%s is not among the codes of its sequence", code.Print(s.c))
		}
		if code.Crossings(s.c) == 0 && len(codes) != 1 {
			t.Errorf("%s has no crossings, and %d codes", text, len(codes))
		}
		if len(codes) > 1 {
			several++
		}
		word := must[[]int](t)(code.Word(s.c))
		for _, c := range codes {
			if again, _ := notes.Sequence(s.fr, c); again != text || !hand.Posed(s.fr, c) {
				t.Fatalf("%s has the sequence %q, not %q", code.Print(c), again, text)
			}
			if !slices.Equal(must[[]int](t)(code.Word(c)), word) {
				t.Errorf("%s: another word", code.Print(c))
			}
		}
	}
	if several < 50 {
		t.Error("few sequences have several codes", several)
	}
}

// P7.5: Swap exchanges over and under.
func TestSequenceSwap(t *testing.T) {
	exchange := strings.NewReplacer("o", "u", "u", "o")
	for _, s := range samples() {
		text := must[string](t)(notes.Sequence(s.fr, s.c))
		swapped := must[string](t)(notes.Sequence(s.fr, must[api.Code](t)(code.Swap(s.c))))
		if swapped != exchange.Replace(text) {
			t.Errorf("%s swapped: %s", text, swapped)
		}
	}
}

// orders calls f with all lists that begin with l, in which each of the other letters and pairs of letters occurs in some place, but no visit comes first.
func orders[T any](l []T, loops int, pairs [][]T, visits []T, f func([]T)) {
	if loops == 0 && len(visits) == 0 {
		f(l)
		return
	}
	if loops > 0 {
		for _, pair := range pairs {
			orders(slices.Concat(l, pair), loops-1, pairs, visits, f)
		}
	}
	for i, visit := range visits {
		if len(l) > 0 {
			orders(append(slices.Clone(l), visit), loops, pairs, slices.Delete(slices.Clone(visits), i, i+1), f)
		}
	}
}

// drawn returns all posed codes with two fingers that have some numbers of loops and crossings.
func drawn(fr api.Frame, loops, crossings int) []api.Code {
	var pairs [][]api.Letter
	for _, gates := range [][2]int{{0, 1}, {1, 0}, {1, 2}, {2, 1}} {
		pairs = append(pairs, []api.Letter{{Kind: api.Pass, Gate: gates[0]}, {Kind: api.Pass, Gate: gates[1]}})
	}
	var visits []api.Letter
	for id := 1; id <= crossings; id++ {
		visits = append(visits, api.Letter{Kind: api.Cross, ID: id}, api.Letter{Kind: api.Cross, ID: id, Over: true})
	}
	var all []api.Code
	orders(nil, loops, pairs, visits, func(l []api.Letter) {
		ranked(l, 0, func(l []api.Letter) {
			all = append(all, family(fr, api.Code{Fingers: 2, Letters: l})...)
		})
	})
	return all
}

// ranked calls f with all lists in which the passes from index i on get ranks up to the number of passes of their gate.
func ranked(l []api.Letter, i int, f func([]api.Letter)) {
	if i == len(l) {
		f(l)
		return
	}
	if l[i].Kind == api.Cross {
		ranked(l, i+1, f)
		return
	}
	for _, other := range l {
		if other.Kind == api.Pass && other.Gate == l[i].Gate {
			l[i].Rank++
			if !slices.Contains(l[:i], l[i]) {
				ranked(slices.Clone(l), i+1, f)
			}
		}
	}
}

// written returns all sequences for the fingers L2 and R1 that have some numbers of loops and crossings.
func written(loops, crossings int) []string {
	var items [][]string
	for _, name := range []string{"L2", "R1"} {
		for number := 1; number <= 3; number++ {
			items = append(items, []string{fmt.Sprintf("%s.%d<", name, number)}, []string{fmt.Sprintf("%s.%d>", name, number)})
		}
	}
	var visits []string
	for id := 1; id <= crossings; id++ {
		visits = append(visits, fmt.Sprintf("%do", id), fmt.Sprintf("%du", id))
	}
	var all []string
	orders(nil, loops, items, visits, func(l []string) { all = append(all, strings.Join(l, " ")) })
	return all
}

// P7.3: all sequences of up to three loops or two crossings for two fingers lead to all of the codes that can be drawn.
func TestAllSmallSequences(t *testing.T) {
	fr := frame(t, "L2", "R1")
	for _, size := range [][2]int{{1, 0}, {2, 0}, {3, 0}, {1, 1}, {2, 1}, {3, 1}, {1, 2}, {2, 2}} {
		groups := map[string][]string{}
		for _, c := range drawn(fr, size[0], size[1]) {
			text := slowSequence(fr, c)
			groups[text] = append(groups[text], code.Print(c))
		}
		found := 0
		for _, text := range written(size[0], size[1]) {
			codes, e := notes.ReadSequence(fr, text)
			want := groups[text]
			if len(want) == 0 {
				if len(codes) > 0 || e != api.ErrCode {
					t.Fatalf("ReadSequence(%q): %d codes, %d", text, len(codes), e)
				}
				continue
			}
			found++
			var got []string
			for _, c := range codes {
				got = append(got, code.Print(c))
			}
			if e != api.OK || !slices.Equal(got, want) {
				t.Fatalf("ReadSequence(%q): %q, %d, not %q", text, got, e, want)
			}
		}
		if found != len(groups) || found == 0 {
			t.Errorf("%v: %d of %d sequences were read", size, found, len(groups))
		}
	}
}

// P7.3: strings that are not sequences, in the order of the errors.
func TestReadSequenceErrors(t *testing.T) {
	fr := frame(t, "L1", "L2", "2R1")
	loops := func(n int) string {
		var l []string
		for i := range n {
			l = append(l, fmt.Sprintf("L1.%d>", i+1))
		}
		return strings.Join(l, " ")
	}
	kinks := func(n int) string {
		s := "L1.1>"
		for i := range n {
			s += fmt.Sprintf(" %do %du", i+1, i+1)
		}
		return s
	}
	for _, c := range []struct {
		s    string
		want api.Errno
	}{
		{"bare", api.OK},
		{"2R1.1<", api.OK},
		{"", api.ErrText},
		{" ", api.ErrText},
		{"bare ", api.ErrText},
		{" bare", api.ErrText},
		{"Bare", api.ErrText},
		{"bare bare", api.ErrText},
		{"bare L1.1>", api.ErrText},
		{"L1.1> bare", api.ErrText},
		{"L1.1> ", api.ErrText},
		{" L1.1>", api.ErrText},
		{"L1.1>  L2.1>", api.ErrText},
		{"L1.1>\n", api.ErrText},
		{"L1.1>L2.1>", api.ErrText},
		{"L1.1", api.ErrText},
		{"L1.>", api.ErrText},
		{"L1>", api.ErrText},
		{"L1", api.ErrText},
		{"L1.0>", api.ErrText},
		{"L1.01>", api.ErrText},
		{"L1.-1>", api.ErrText},
		{"L1.+1>", api.ErrText},
		{"L1.1>>", api.ErrText},
		{"L1.1o", api.ErrText},
		{"L1.999999999>", api.ErrCode},
		{"L1.1000000000>", api.ErrText},
		{"L7.1>", api.ErrText},
		{"1L1.1>", api.ErrText},
		{"0L1.1>", api.ErrText},
		{"1o 1u", api.ErrText},
		{"1o L1.1> 1u", api.ErrText},
		{"1o L3.1> 1u", api.ErrText},
		{"L1.1> 0o 0u", api.ErrText},
		{"L1.1> 01o 01u", api.ErrText},
		{"L1.1> 1 1", api.ErrText},
		{"L1.1> o u", api.ErrText},
		{"L1.1> 1O 1U", api.ErrText},
		{"L1.1> 1o+ 1u+", api.ErrText},
		{"L1.1> 1> 1<", api.ErrText},
		{"L1.1> 1ou", api.ErrText},
		{"L1.1> 1000000000o", api.ErrText},
		{"L1.1> 999999999o", api.ErrCode},
		{"L1.1> 99999999999999999999o 1u", api.ErrText},
		{"L3.1>", api.ErrNone},
		{"R1.1>", api.ErrNone},
		{"3R1.1>", api.ErrNone},
		{"L3.1> x", api.ErrText},
		{"L3.2>", api.ErrNone},
		{"L1.1> 1o L3.1>", api.ErrNone},
		{"L1.2>", api.ErrCode},
		{"L1.1> L1.1>", api.ErrCode},
		{"L1.1> L1.1<", api.ErrCode},
		{"L1.1> L1.3>", api.ErrCode},
		{"L1.1> L2.2>", api.ErrCode},
		{"L1.1> 1o", api.ErrCode},
		{"L1.1> 1o 1o", api.ErrCode},
		{"L1.1> 1o 1u 1o", api.ErrCode},
		{"L1.1> 1o 1u 1o 1u", api.ErrCode},
		{"L1.1> 1o 2u", api.ErrCode},
		{"L1.1> 2o 2u", api.ErrCode},
		{"L1.1> 1o 1u 3o 3u", api.ErrCode},
		{"L1.1> 1o 1u 2o 1u", api.ErrCode},
		{"L1.1> 1o 1u", api.OK},
		{"L1.1> L2.1>", api.OK},
		{"L1.1> L2.1<", api.ErrCode},
		{"L1.1> L1.2<", api.OK},
		{kinks(12), api.OK},
		{kinks(13), api.ErrLong},
		{kinks(13) + " 1o", api.ErrCode},
		{kinks(13) + " L1.1<", api.ErrCode},
		{kinks(13) + " L3.1>", api.ErrNone},
		{kinks(13) + " x", api.ErrText},
		{kinks(200), api.ErrLong},
		{loops(200), api.ErrCode},
		{loops(201), api.ErrLong},
		{loops(199) + " 1o 1u", api.ErrCode},
		{loops(199) + " 1o 1u 2o 2u", api.ErrLong},
		{loops(201) + " 1o", api.ErrCode},
		{loops(201) + " L1.1>", api.ErrCode},
		{strings.Repeat("L1.1> ", 1333), api.ErrText},
		{strings.Repeat("L1.1> ", 1332) + "L1.10>", api.ErrCode},
		{strings.Repeat("L1.1> ", 1333) + "L1.1>", api.ErrLong},
		{strings.Repeat("x", 8000), api.ErrText},
		{strings.Repeat("x", 8001), api.ErrLong},
		{"\xff", api.ErrText},
		{"L1.\u0661>", api.ErrText},
	} {
		codes, e := notes.ReadSequence(fr, c.s)
		if e != c.want || (len(codes) > 0) != (e == api.OK) {
			t.Errorf("ReadSequence(%.50q): %d codes, %d, not %d", c.s, len(codes), e, c.want)
		}
	}
}

// P7.3: strings that differ a little from sequences.
func TestReadSequenceMutated(t *testing.T) {
	r := rand.New(rand.NewSource(4))
	pieces := []string{" ", "L2", "L1", "R1", "2R1", ".1>", ".2<", " 1o", " 1u", " 2o 2u", "1", "o", "u", "<", ">", "bare", "0", "é"}
	met := map[api.Errno]int{}
	for range 30000 {
		s := samples()[r.Intn(len(samples()))]
		text := mutated(r, must[string](t)(notes.Sequence(s.fr, s.c)), pieces)
		codes, e := notes.ReadSequence(s.fr, text)
		met[e]++
		want := textError(s.fr, sequencePattern, text)
		if want != api.OK && e != want || want == api.OK && e != api.OK && e != api.ErrCode || (len(codes) > 0) != (e == api.OK) {
			t.Fatalf("ReadSequence(%q): %d codes, %d", text, len(codes), e)
		}
		for _, c := range codes {
			if again := slowSequence(s.fr, c); again != text {
				t.Fatalf("ReadSequence(%q) is that of %q", text, again)
			}
		}
	}
	if met[api.OK] < 500 || met[api.ErrNone] < 500 || met[api.ErrCode] < 500 {
		t.Error("few strings could be read", met)
	}
}

// P7.3: codes that have no sequence, in the order of the errors.
func TestSequenceErrors(t *testing.T) {
	fr := frame(t, "L1", "L2")
	long := api.Code{Fingers: 50, Letters: make([]api.Letter, 401)}
	for _, c := range []struct {
		fr   api.Frame
		c    api.Code
		want api.Errno
	}{
		{api.Frame{}, long, api.ErrArg},
		{fr, long, api.ErrLong},
		{fr, api.Code{Fingers: 41}, api.ErrArg},
		{fr, api.Code{Fingers: 2, Letters: []api.Letter{{}}}, api.ErrCode},
		{fr, api.Code{Fingers: 3, Letters: []api.Letter{{}}}, api.ErrCode},
		{fr, api.Code{Fingers: 3}, api.ErrArg},
		{fr, read(t, "2: 0.1 2.1"), api.ErrArg},
		{fr, read(t, "2: 0.1 1u+ 1o+ 1.1"), api.ErrArg},
		{fr, read(t, "2: 0.1 0.2"), api.ErrArg},
		{fr, read(t, "2: 0.1 1.1"), api.OK},
		{fr, api.Code{Fingers: 2}, api.OK},
	} {
		s, e := notes.Sequence(c.fr, c.c)
		n, e2 := notes.Signless(c.fr, c.c)
		if e != c.want || e2 != c.want || (s != "") != (e == api.OK) || (n != 0) != (e == api.OK) {
			t.Errorf("%s: %q, %d, %d, %d, not %d", code.Print(c.c), s, e, n, e2, c.want)
		}
	}
	if codes, e := notes.ReadSequence(api.Frame{}, ""); len(codes) > 0 || e != api.ErrArg {
		t.Error(codes, e)
	}
}

// kinked returns a posed code with n kinks above the axis, after the second letter.
func kinked(c api.Code, n int) api.Code {
	c = copied(c)
	for i := range n {
		kink := []api.Letter{{Kind: api.Cross, ID: i + 1, Sign: 1}, {Kind: api.Cross, ID: i + 1, Sign: 1, Over: true}}
		c.Letters = slices.Insert(c.Letters, 2, kink...)
	}
	return c
}

// P7.3: the limits of crossings and letters.
func TestSequenceLimits(t *testing.T) {
	fr := must[api.Frame](t)(hand.Standard(4))
	fr.Loops = 20
	var all []int
	for f := range 40 {
		all = append(all, f+1)
	}
	full := must[api.Code](t)(hand.Hang(fr, all...))
	for len(full.Letters) < 376 {
		f := 1 + len(full.Letters)/2%40
		full, _, _ = hand.Do(fr, full, pick(f, near(f, 0, 0)))
	}
	for n, want := range map[int]int{0: 1, 1: 2, 2: 4, 12: 4096} {
		c := kinked(full, n)
		text, e := notes.Sequence(fr, c)
		if text != slowSequence(fr, c) || e != api.OK {
			t.Errorf("%d crossings: %d", n, e)
		}
		codes, e := notes.ReadSequence(fr, text)
		if len(codes) != want || e != api.OK {
			t.Errorf("%d crossings: %d codes, %d", n, len(codes), e)
		}
		if count, e := notes.Signless(fr, c); count != want || e != api.OK {
			t.Errorf("%d crossings: %d, %d", n, count, e)
		}
	}
	for len(full.Letters) < 400 {
		f := 1 + len(full.Letters)/2%40
		full, _, _ = hand.Do(fr, full, pick(f, near(f, 0, 0)))
	}
	text := must[string](t)(notes.Sequence(fr, full))
	if codes, e := notes.ReadSequence(fr, text); len(codes) != 1 || !equal(codes[0], full) || e != api.OK {
		t.Error(len(codes), e)
	}
	for _, n := range []int{13, 50, 100} {
		c := kinked(read(t, "40: 0.1 1.1"), n)
		text, e := notes.Sequence(fr, c)
		if text != slowSequence(fr, c) || e != api.OK {
			t.Errorf("%d crossings: %d", n, e)
		}
		if codes, e := notes.ReadSequence(fr, text); len(codes) > 0 || e != api.ErrLong {
			t.Errorf("%d crossings: %d codes, %d", n, len(codes), e)
		}
		if count, e := notes.Signless(fr, c); count != 0 || e != api.ErrLong {
			t.Errorf("%d crossings: %d, %d", n, count, e)
		}
	}
	if _, e := notes.Signless(frame(t, "L1"), kinked(read(t, "40: 0.1 1.1"), 100)); e != api.ErrArg {
		t.Error(e)
	}
}
