package rest

import (
	"math/bits"

	"sandreckoner/num"
)

// circle tells how the powers of two come again by a modulus: 2^e and 2^(e + length) leave the same, for each e from lead on.
type circle struct {
	modulus, lead, length int64
}

// circlesOf returns the circle of m, the circle of its length, and so on, up to one of the length 1.
func circlesOf(m int64) []circle {
	var circles []circle
	for m > 1 {
		lead := bits.TrailingZeros64(uint64(m))
		// By an odd modulus, 2 to the power of as many as have no divisor in common with it leaves 1.
		length := coprimes(m >> lead)
		circles = append(circles, circle{m, int64(lead), length})
		m = length
	}
	return circles
}

// coprimes returns how many of the numbers from 1 to n, which is odd, have no divisor in common with n but 1.
func coprimes(n int64) int64 {
	count := n
	for p := int64(3); p*p <= n; p += 2 {
		if n%p == 0 {
			count -= count / p
		}
		for n%p == 0 {
			n /= p
		}
	}
	if n > 1 {
		count -= count / n
	}
	return count
}

// divider calculates what the parts of a number leave. The number is divided by the modulus of the first circle, its exponents by that of the second one, and so on.
type divider struct {
	parts   *parts
	circles []circle
	powers  map[power]int64 // what powers of two leave
}

// power is 2 to the power of the part at a place, divided by the modulus of a circle.
type power struct {
	exp, level int
}

// remainder returns the remainder of x by m.
func remainder(x num.N, m int64) int64 {
	if n, ok := x.Int(); ok {
		return mod(n, m)
	}
	d := divider{partsOf(x), circlesOf(m), map[power]int64{}}
	return d.part(d.parts.last(), 0)
}

// part returns what the part at a place leaves.
func (d *divider) part(place, level int) int64 {
	if level == len(d.circles) { // behind the last circle stands the modulus 1
		return 0
	}
	sum := int64(0)
	d.parts.each(place, func(minus bool, exp int) {
		left := d.power(power{exp, level})
		if minus {
			left = -left
		}
		sum = mod(sum+left, d.circles[level].modulus)
	})
	return sum
}

// power returns what a power of two leaves.
func (d *divider) power(p power) int64 {
	if left, ok := d.powers[p]; ok {
		return left
	}
	c := d.circles[p.level]
	e := d.parts.sizes[p.exp]
	if e >= c.lead {
		e = c.lead + mod(d.part(p.exp, p.level+1)-c.lead, c.length)
	}
	left := powerOfTwo(e, c.modulus)
	d.powers[p] = left
	return left
}

// powerOfTwo returns the remainder of 2^e by m, which is greater than 1.
func powerOfTwo(e, m int64) int64 {
	left := int64(1)
	digits := bits.Len64(uint64(e))
	for i := range digits {
		left = left * left % m
		if e>>(digits-1-i)&1 == 1 {
			left = left * 2 % m
		}
	}
	return left
}

// mod returns the remainder of n by m, which is not negative.
func mod(n, m int64) int64 {
	left := n % m
	if left < 0 {
		left += m
	}
	return left
}
