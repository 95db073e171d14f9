// Package fixed has numbers that have an end.
package fixed

import (
	"slices"

	"orchardry/api"
)

// most is how many numbers of a list count for its mean and its median.
const most = 1000

// Add two.
func Add(a, b int) int { return fit(fit(a) + fit(b)) }

// Mul two.
func Mul(a, b int) int {
	a, b = fit(a), fit(b)
	// The product of two ends has 80 bits, so it is bounded ahead of multiplying.
	if a == 0 || size(b) <= api.MaxNum/size(a) {
		return a * b
	}
	if (a < 0) == (b < 0) {
		return api.MaxNum
	}
	return -api.MaxNum
}

// Total of a list.
func Total(l []int) int {
	sum := 0
	for _, n := range l {
		sum = Add(sum, n)
	}
	return sum
}

// Mean of a list.
func Mean(l []int) int {
	fits := counted(l)
	if len(fits) == 0 {
		return 0
	}
	// Not Total: only the numbers are made fit, not their sum, and 1000 of them stay within 64 bits.
	sum := 0
	for _, n := range fits {
		sum += n
	}
	return down(sum, len(fits))
}

// Median of a list.
func Median(l []int) int {
	fits := counted(l)
	if len(fits) == 0 {
		return 0
	}
	slices.Sort(fits)
	return fits[len(fits)/2]
}

// Round a fraction.
func Round(a, b int) int {
	a, b = fit(a), fit(b)
	if b == 0 {
		return 0
	}
	if b < 0 {
		a, b = -a, -b
	}
	// A half more, rounded down, takes the greater one of two that are as near.
	return down(2*a+b, 2*b)
}

// fit gives a number, or the end that it is beyond.
func fit(n int) int { return min(max(n, -api.MaxNum), api.MaxNum) }

// size of a number that is fit, so that its negative is a number too.
func size(n int) int { return max(n, -n) }

// counted gives the numbers of a list that count, made fit, in a list of its own, as the caller's must stay as it is.
func counted(l []int) []int {
	fits := make([]int, min(len(l), most))
	for i := range fits {
		fits[i] = fit(l[i])
	}
	return fits
}

// down divides by b, which is above 0; Go's own division goes towards 0 instead.
func down(a, b int) int {
	q := a / b
	if a%b < 0 {
		q--
	}
	return q
}
