package sign

import (
	"iter"
	"slices"

	"catscradle/api"
	"catscradle/code"
	"catscradle/ease"
	"catscradle/line"
)

// Keep returns the code in which some fingers are kept.
func Keep(c api.Code, fingers ...int) (api.Code, api.Errno) {
	if e := code.Check(c); e != api.OK {
		return api.Code{}, e
	}
	if !kept(c.Fingers, fingers) {
		return api.Code{}, api.ErrArg
	}
	return keep(c, fingers), api.OK
}

// Unlike returns a witness that two codes are not the same.
func Unlike(a, b api.Code) (api.Witness, api.Errno) {
	if e := examine(a, b); e != api.OK {
		return api.Witness{}, e
	}
	for w := range witnesses(a.Fingers) {
		if holds(a, b, w) {
			return w, api.OK
		}
	}
	return api.Witness{}, api.ErrOpen
}

// Check reports whether a witness holds.
func Check(a, b api.Code, w api.Witness) bool {
	return examine(a, b) == api.OK && kept(a.Fingers, w.Fingers) && holds(a, b, w)
}

// Judge returns the verdict on two codes.
func Judge(a, b api.Code, limit int) (api.Verdict, api.Errno) {
	joint, e := ease.Join(a, b, limit)
	if e == api.OK {
		return api.Verdict{Same: true, Joint: joint}, api.OK
	}
	if e != api.ErrOpen {
		return api.Verdict{}, e
	}
	if w, e := Unlike(a, b); e == api.OK {
		return api.Verdict{Unlike: true, Witness: w}, api.OK
	}
	return api.Verdict{}, api.OK
}

// examine returns what is wrong with two codes that are to be compared.
func examine(a, b api.Code) api.Errno {
	if e := code.Check(a); e != api.OK {
		return e
	}
	if e := code.Check(b); e != api.OK {
		return e
	}
	if a.Fingers != b.Fingers {
		return api.ErrArg
	}
	return api.OK
}

// kept reports whether some of k fingers can be kept.
func kept(k int, fingers []int) bool {
	last := 0
	for _, f := range fingers {
		if f <= last || f > k {
			return false
		}
		last = f
	}
	return true
}

// keep returns the valid code in which some fingers are kept.
func keep(c api.Code, fingers []int) api.Code {
	result := api.Code{Fingers: c.Fingers, Letters: slices.Clone(c.Letters)}
	for f := c.Fingers; f > 0; f-- {
		if !slices.Contains(fingers, f) {
			result, _ = code.Forget(result, f)
		}
	}
	return result
}

// witnesses returns an iterator over the witnesses for k fingers, in the order in which they are tried.
func witnesses(k int) iter.Seq[api.Witness] {
	inWords := slices.Concat(singles(k), pairs(k))
	if k > 2 {
		inWords = append(inWords, all(k))
	}
	inSigns := slices.Concat([][]int{nil}, singles(k))
	if k > 1 {
		inSigns = append(inSigns, all(k))
	}
	return func(yield func(api.Witness) bool) {
		for _, fingers := range inWords {
			if !yield(api.Witness{Kind: api.WitnessWord, Fingers: fingers}) {
				return
			}
		}
		for _, fingers := range inSigns {
			if !yield(api.Witness{Kind: api.WitnessSign, Fingers: fingers}) {
				return
			}
		}
	}
}

// singles returns the lists of a single one of k fingers.
func singles(k int) [][]int {
	var l [][]int
	for _, f := range all(k) {
		l = append(l, []int{f})
	}
	return l
}

// pairs returns the lists of two of k fingers.
func pairs(k int) [][]int {
	var l [][]int
	for _, one := range all(k) {
		for two := one + 1; two <= k; two++ {
			l = append(l, []int{one, two})
		}
	}
	return l
}

// all returns the list of k fingers.
func all(k int) []int {
	var l []int
	for f := range k {
		l = append(l, f+1)
	}
	return l
}

// holds reports whether a witness whose fingers can be kept holds for two valid codes.
func holds(a, b api.Code, w api.Witness) bool {
	switch w.Kind {
	case api.WitnessWord:
		return !slices.Equal(word(a, w.Fingers), word(b, w.Fingers))
	case api.WitnessSign:
		one, e := Sign(keep(a, w.Fingers))
		if e != api.OK {
			return false
		}
		two, e := Sign(keep(b, w.Fingers))
		return e == api.OK && !Equal(one, two)
	}
	return false
}

// word returns the normal form of the word of a valid code in which some fingers are kept. Without the other ones, a gate is that with as many kept fingers to its left.
func word(c api.Code, fingers []int) []int {
	gates, _ := code.Word(c)
	for i, gate := range gates {
		gates[i], _ = slices.BinarySearch(fingers, gate+1)
	}
	normal, _ := line.Normal(gates)
	return normal
}
