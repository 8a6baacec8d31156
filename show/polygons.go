package show

import (
	"catscradle/api"
	"catscradle/code"
)

// Polygons returns the polygons of all faces.
func Polygons(c api.Code) ([]api.Polygon, api.Errno) {
	faces, e := code.Faces(c)
	if e != api.OK {
		return nil, e
	}
	at := layout{letters: c.Letters}
	var all []api.Polygon
	for _, face := range faces {
		p := api.Polygon{Sides: len(face.Darts), Inner: len(face.Places) == 0}
		for _, dart := range face.Darts {
			if at.target(dart).Kind == api.Cross {
				p.Corners++
			}
		}
		all = append(all, p)
	}
	return all, api.OK
}

// Pattern returns how many inner polygons have how many corners.
func Pattern(c api.Code) ([]int, api.Errno) {
	polygons, e := Polygons(c)
	if e != api.OK {
		return nil, e
	}
	var pattern []int
	for _, p := range polygons {
		if !p.Inner {
			continue
		}
		for len(pattern) <= p.Corners {
			pattern = append(pattern, 0)
		}
		pattern[p.Corners]++
	}
	return pattern, api.OK
}
