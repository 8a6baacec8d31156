package hand

import (
	"slices"
	"strconv"

	"catscradle/api"
)

// The bounds of a frame and of a finger.
const (
	maxReach   = 40
	maxLoops   = 20
	maxPerson  = 9
	maxDigit   = 6
	maxPersons = 4 // persons of a standard frame
)

// Valid reports whether a frame is valid.
func Valid(fr api.Frame) bool {
	if len(fr.Fingers) > api.MaxFingers || fr.Reach < 0 || fr.Reach > maxReach || fr.Loops < 1 || fr.Loops > maxLoops {
		return false
	}
	for i, f := range fr.Fingers {
		if !exists(f) || Index(fr, f) != i+1 {
			return false
		}
	}
	return true
}

// exists reports whether a person can have a finger.
func exists(f api.Finger) bool {
	return f.Person >= 1 && f.Person <= maxPerson && f.Digit >= 0 && f.Digit <= maxDigit
}

// Standard returns the frame of some persons.
func Standard(persons int) (api.Frame, api.Errno) {
	if persons < 0 || persons > maxPersons {
		return api.Frame{}, api.ErrArg
	}
	fr := api.Frame{Reach: 6, Loops: 4}
	for person := 1; person <= persons; person++ {
		for digit := 1; digit <= 5; digit++ {
			fr.Fingers = append(fr.Fingers, api.Finger{Person: person, Digit: digit})
		}
		for digit := 5; digit >= 1; digit-- {
			fr.Fingers = append(fr.Fingers, api.Finger{Person: person, Right: true, Digit: digit})
		}
	}
	return fr, api.OK
}

// Name returns the name of a finger.
func Name(f api.Finger) string {
	name := "L"
	if f.Right {
		name = "R"
	}
	if f.Person != 1 {
		name = strconv.Itoa(f.Person) + name
	}
	return name + strconv.Itoa(f.Digit)
}

// ParseName reads the name of a finger.
func ParseName(s string) (api.Finger, api.Errno) {
	f := api.Finger{Person: 1}
	rest := s
	// The number 1 is not written.
	if s != "" && s[0] >= '2' && s[0] <= '0'+maxPerson {
		f.Person = int(s[0] - '0')
		rest = s[1:]
	}
	if len(rest) != 2 || rest[0] != 'L' && rest[0] != 'R' || rest[1] < '0' || rest[1] > '0'+maxDigit {
		return api.Finger{}, api.ErrText
	}
	f.Right = rest[0] == 'R'
	f.Digit = int(rest[1] - '0')
	return f, api.OK
}

// Index returns the number of a finger on the axis.
func Index(fr api.Frame, f api.Finger) int {
	return slices.Index(fr.Fingers, f) + 1
}
