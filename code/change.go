package code

import "catscradle/api"

// Swap returns the code with over and under exchanged.
func Swap(c api.Code) (api.Code, api.Errno) {
	if e := Check(c); e != api.OK {
		return api.Code{}, e
	}
	return each(c, func(l api.Letter) api.Letter {
		l = otherStrand(l)
		l.Sign = -l.Sign
		return l
	}), api.OK
}

// Mirror returns the code that is reflected left to right.
func Mirror(c api.Code) (api.Code, api.Errno) {
	if e := Check(c); e != api.OK {
		return api.Code{}, e
	}
	counts := gates(c)
	return each(c, func(l api.Letter) api.Letter {
		if l.Kind == api.Pass {
			return api.Letter{Kind: api.Pass, Gate: c.Fingers - l.Gate, Rank: counts[l.Gate] + 1 - l.Rank}
		}
		l.Sign = -l.Sign
		return l
	}), api.OK
}

// Turn returns the code that is turned about the axis.
func Turn(c api.Code) (api.Code, api.Errno) {
	if e := Check(c); e != api.OK {
		return api.Code{}, e
	}
	turned := each(c, otherStrand)
	// The second pass is the first one of those that went up, and go down now.
	return follow(turned, nextPass(c.Letters, 1, 1), 1), api.OK
}

// otherStrand returns a letter, a visit of a crossing on the other strand.
func otherStrand(l api.Letter) api.Letter {
	l.Over = l.Kind == api.Cross && !l.Over
	return l
}

// each returns the code with a change made to each of its letters.
func each(c api.Code, change func(api.Letter) api.Letter) api.Code {
	result := api.Code{Fingers: c.Fingers, Letters: make([]api.Letter, len(c.Letters))}
	for i, l := range c.Letters {
		result.Letters[i] = change(l)
	}
	return result
}
