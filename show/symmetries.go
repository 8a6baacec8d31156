package show

import (
	"slices"

	"catscradle/api"
	"catscradle/code"
)

// Image returns the image of a code under a symmetry.
func Image(c api.Code, s api.Symmetry) (api.Code, api.Errno) {
	if e := code.Check(c); e != api.OK {
		return api.Code{}, e
	}
	image := copied(c)
	for _, change := range []struct {
		chosen bool
		do     func(api.Code) (api.Code, api.Errno)
	}{
		{s.Swap, code.Swap},
		{s.Mirror, code.Mirror},
		{s.Turn, code.Turn},
	} {
		if change.chosen {
			// The code is valid, so there is no error.
			image, _ = change.do(image)
		}
	}
	return image, api.OK
}

// Symmetries returns the symmetries that a code has.
func Symmetries(c api.Code) ([]api.Symmetry, api.Errno) {
	var all []api.Symmetry
	for _, s := range choices() {
		image, e := Image(c, s)
		if e != api.OK {
			return nil, e
		}
		if same, _ := code.Same(image, c); same {
			all = append(all, s)
		}
	}
	return all, api.OK
}

// choices returns all symmetries, in their order.
func choices() []api.Symmetry {
	var all []api.Symmetry
	for n := range 8 {
		all = append(all, api.Symmetry{Swap: n&4 != 0, Mirror: n&2 != 0, Turn: n&1 != 0})
	}
	return all
}

// copied returns a code with letters of its own.
func copied(c api.Code) api.Code {
	return api.Code{Fingers: c.Fingers, Letters: slices.Clone(c.Letters)}
}
