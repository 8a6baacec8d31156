package code

import (
	"slices"

	"catscradle/api"
)

// Normal returns the normal form of a code.
func Normal(c api.Code) (api.Code, api.Errno) {
	d, e := draw(c)
	if e != api.OK {
		return api.Code{}, e
	}
	if len(c.Letters) == 0 {
		return api.Code{Fingers: c.Fingers}, api.OK
	}
	// Each pass begins one of the lists of which the least one is wanted: it goes down in one direction of travel. All passes are different, so the leftmost one begins the least list.
	first, step := d.axis[0], 1
	if d.above[first] {
		step = -1
	}
	return renamed(follow(c, first, step)), api.OK
}

// Same reports whether two codes have equal normal forms.
func Same(a, b api.Code) (bool, api.Errno) {
	one, e := Normal(a)
	if e != api.OK {
		return false, e
	}
	two, e := Normal(b)
	if e != api.OK {
		return false, e
	}
	return one.Fingers == two.Fingers && slices.Equal(one.Letters, two.Letters), api.OK
}

// Rename returns a code with IDs in the order of first visits.
func Rename(c api.Code) (api.Code, api.Errno) {
	if e := Check(c); e != api.OK {
		return api.Code{}, e
	}
	return renamed(c), api.OK
}

// Start returns the code that begins with a letter, which is a pass that goes down.
func Start(c api.Code, i int) (api.Code, api.Errno) {
	d, e := draw(c)
	if e != api.OK {
		return api.Code{}, e
	}
	if i < 0 || i >= len(c.Letters) || c.Letters[i].Kind != api.Pass || d.above[i] {
		return api.Code{}, api.ErrArg
	}
	return follow(c, i, 1), api.OK
}

// Back returns the code that is traveled backwards.
func Back(c api.Code) (api.Code, api.Errno) {
	if e := Check(c); e != api.OK {
		return api.Code{}, e
	}
	// The last pass goes up, so it goes down backwards.
	return follow(c, nextPass(c.Letters, len(c.Letters)-1, -1), -1), api.OK
}

// nextPass returns the index of the first pass from an index on, forwards or backwards; an index outside of the list if there is none.
func nextPass(letters []api.Letter, i, step int) int {
	for i >= 0 && i < len(letters) && letters[i].Kind != api.Pass {
		i += step
	}
	return i
}

// follow returns the code of the letters that one meets from a letter on, forwards with the step 1 or backwards with the step -1.
func follow(c api.Code, first, step int) api.Code {
	n := len(c.Letters)
	result := api.Code{Fingers: c.Fingers, Letters: make([]api.Letter, n)}
	for i := range n {
		result.Letters[i] = c.Letters[(first+step*i+n)%n]
	}
	return result
}

// renamed returns a valid code with IDs in the order of first visits.
func renamed(c api.Code) api.Code {
	result := api.Code{Fingers: c.Fingers, Letters: slices.Clone(c.Letters)}
	names := make([]int, Crossings(c)+1)
	last := 0
	for i, l := range c.Letters {
		if l.Kind != api.Cross {
			continue
		}
		if names[l.ID] == 0 {
			last++
			names[l.ID] = last
		}
		result.Letters[i].ID = names[l.ID]
	}
	return result
}
