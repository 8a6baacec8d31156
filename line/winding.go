package line

import "catscradle/api"

// Winding returns the winding numbers of a curve around the fingers 1 to k.
func Winding(k int, w []int) ([]int, api.Errno) {
	if e := check(k, w); e != api.OK {
		return nil, e
	}
	numbers := make([]int, k)
	for i, gate := range w {
		turn := 1 - 2*(i%2)
		// The index of a finger is one less than its number, so these are the fingers to the right of the gate.
		for f := gate; f < k; f++ {
			numbers[f] += turn
		}
	}
	return numbers, api.OK
}

// Inside returns the fingers that a curve surrounds an odd number of times.
func Inside(k int, w []int) ([]int, api.Errno) {
	numbers, e := Winding(k, w)
	if e != api.OK {
		return nil, e
	}
	var fingers []int
	for i, number := range numbers {
		// The number of letters has the parity of the winding number, in which each of them counts as 1 or -1.
		if number%2 != 0 {
			fingers = append(fingers, i+1)
		}
	}
	return fingers, api.OK
}
