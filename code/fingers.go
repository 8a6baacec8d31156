package code

import "catscradle/api"

// Forget returns the code without finger f.
func Forget(c api.Code, f int) (api.Code, api.Errno) {
	if e := Check(c); e != api.OK {
		return api.Code{}, e
	}
	if f < 1 || f > c.Fingers {
		return api.Code{}, api.ErrArg
	}
	counts := gates(c)
	result := each(c, func(l api.Letter) api.Letter {
		if l.Kind == api.Pass && l.Gate == f {
			l.Rank += counts[f-1]
		}
		if l.Kind == api.Pass && l.Gate >= f {
			l.Gate--
		}
		return l
	})
	result.Fingers--
	return result, api.OK
}

// Insert returns the code with a new finger at a place.
func Insert(c api.Code, p api.Place) (api.Code, api.Errno) {
	if e := Check(c); e != api.OK {
		return api.Code{}, e
	}
	if c.Fingers == api.MaxFingers || p.Gate < 0 || p.Gate > c.Fingers || p.Left < 0 || p.Left > gates(c)[p.Gate] {
		return api.Code{}, api.ErrArg
	}
	result := each(c, func(l api.Letter) api.Letter {
		switch {
		case l.Kind != api.Pass || l.Gate < p.Gate:
			return l
		case l.Gate == p.Gate && l.Rank <= p.Left:
			return l
		case l.Gate == p.Gate:
			l.Rank -= p.Left
		}
		l.Gate++
		return l
	})
	result.Fingers++
	return result, api.OK
}

// Bare returns the bare loop with k fingers.
func Bare(k int) (api.Code, api.Errno) {
	if k < 0 || k > api.MaxFingers {
		return api.Code{}, api.ErrArg
	}
	return api.Code{Fingers: k}, api.OK
}

// Circle returns the code of a circle around the fingers i to j.
func Circle(k, i, j int) (api.Code, api.Errno) {
	if k < 0 || k > api.MaxFingers || i < 1 || i > j || j > k {
		return api.Code{}, api.ErrArg
	}
	down := api.Letter{Kind: api.Pass, Gate: i - 1, Rank: 1}
	up := api.Letter{Kind: api.Pass, Gate: j, Rank: 1}
	return api.Code{Fingers: k, Letters: []api.Letter{down, up}}, api.OK
}
