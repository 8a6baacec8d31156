package sign

import (
	"slices"

	"catscradle/api"
)

// number is a type of coefficients.
type number interface{ ~int | ~int64 }

// monomial is a multiple of a power of A.
type monomial[N number] struct {
	exponent int
	factor   N
}

// polynomial is a sum of monomials in the order of their exponents. No factor is 0.
type polynomial[N number] []monomial[N]

// add returns the sum of two polynomials.
func add[N number](p, q polynomial[N]) polynomial[N] {
	total := make(polynomial[N], 0, len(p)+len(q))
	for len(p) > 0 && len(q) > 0 {
		switch {
		case p[0].exponent < q[0].exponent:
			total, p = append(total, p[0]), p[1:]
		case p[0].exponent > q[0].exponent:
			total, q = append(total, q[0]), q[1:]
		default:
			if factor := p[0].factor + q[0].factor; factor != 0 {
				total = append(total, monomial[N]{p[0].exponent, factor})
			}
			p, q = p[1:], q[1:]
		}
	}
	return append(append(total, p...), q...)
}

// times returns a polynomial, multiplied by a power of A and by 1 or -1.
func (p polynomial[N]) times(exponent int, factor N) polynomial[N] {
	result := slices.Clone(p)
	for i := range result {
		result[i].exponent += exponent
		result[i].factor *= factor
	}
	return result
}

// looped returns a polynomial, multiplied by -A^2 - A^-2, the factor of a curve with the empty word.
func (p polynomial[N]) looped() polynomial[N] {
	return add(p.times(-2, -1), p.times(2, -1))
}

// flipped returns a polynomial in which A is replaced by A^-1.
func (p polynomial[N]) flipped() polynomial[N] {
	result := slices.Clone(p)
	slices.Reverse(result)
	for i := range result {
		result[i].exponent = -result[i].exponent
	}
	return result
}

// at returns the number that a polynomial becomes if A is replaced by 1 or -1, as a polynomial.
func (p polynomial[N]) at(a int) polynomial[N] {
	var value N
	for _, m := range p {
		if a == -1 && m.exponent%2 != 0 {
			value -= m.factor
		} else {
			value += m.factor
		}
	}
	if value == 0 {
		return nil
	}
	return polynomial[N]{{0, value}}
}

// coeffs returns the coefficients of a polynomial that is not 0, from its least exponent on; false if there are too many.
func (p polynomial[N]) coeffs(most int) ([]N, bool) {
	low := p[0].exponent
	// The differences of exponents, taken as uints, are right even if they are no ints.
	last := uint(p[len(p)-1].exponent - low)
	if last >= uint(most) {
		return nil, false
	}
	l := make([]N, last+1)
	for _, m := range p {
		at := uint(m.exponent - low)
		if at > last {
			// Some exponent was no int, and the order is lost.
			return nil, false
		}
		l[at] = m.factor
	}
	return l, true
}

// loops returns the powers of -A^2 - A^-2, from the one with the exponent 0 to the one with the exponent n.
func loops[N number](n int) []polynomial[N] {
	powers := []polynomial[N]{{{0, 1}}}
	for i := range n {
		powers = append(powers, powers[i].looped())
	}
	return powers
}

// of returns the polynomial of a term.
func of(t api.Term) polynomial[int] {
	var p polynomial[int]
	for i, n := range t.Coeffs {
		if n != 0 {
			p = append(p, monomial[int]{t.Low + i, n})
		}
	}
	return p
}
