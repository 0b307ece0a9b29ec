// Package span is layer 1: see shared/doc/01-span.md.
package span

import (
	"math"

	"varve/api"
)

// end is where a range begins or ends: a type with methods, so that the way in which two are compared can be handed on as a method expression.
type end int

func (a end) below(b end) bool { return a < b }

func (a end) above(b end) bool { return a > b }

// pick tells which of two ends is the further one; which way is further differs between Lo and Hi, and between Both and Cover.
func pick(further func(a, b end) bool, a, b int) int {
	if further(end(b), end(a)) {
		return b
	}
	return a
}

// none is the one form in which every answer without a number is given, so that answers can be compared as wholes.
func none() api.Range { return api.Range{Lo: 1, Hi: 0} }

// Has tells whether a range has a number.
func Has(r api.Range, n int) bool { return r.Lo <= n && n <= r.Hi }

// Empty tells whether a range is empty.
func Empty(r api.Range) bool { return r.Hi < r.Lo }

// Size tells how many numbers a range has.
func Size(r api.Range) int {
	if Empty(r) {
		return 0
	}
	// Only a Lo below 1 leaves room for too many numbers, and its sum with the greatest int is still an int.
	if r.Lo < 1 && r.Hi >= r.Lo+math.MaxInt {
		return math.MaxInt
	}
	return r.Hi - r.Lo + 1
}

// Both tells what ranges have in common.
func Both(l ...api.Range) api.Range {
	if len(l) == 0 {
		return none()
	}
	r := l[0]
	for _, x := range l[1:] {
		r.Lo = pick(end.above, r.Lo, x.Lo)
		r.Hi = pick(end.below, r.Hi, x.Hi)
	}
	if Empty(r) {
		return none()
	}
	return r
}

// Cover tells the range that covers ranges.
func Cover(l ...api.Range) api.Range {
	r := none()
	for _, x := range l {
		if Empty(x) {
			continue
		}
		// The empty one's own ends must not count as covered.
		if Empty(r) {
			r = x
		}
		r.Lo = pick(end.below, r.Lo, x.Lo)
		r.Hi = pick(end.above, r.Hi, x.Hi)
	}
	return r
}

// Meets tells whether two ranges have a number in common.
func Meets(a, b api.Range) bool { return !Empty(Both(a, b)) }

// Within tells whether a range has all of another one.
func Within(a, b api.Range) bool {
	return Empty(a) || Has(b, a.Lo) && Has(b, a.Hi)
}

// Trim cuts a range at a floor.
func Trim(r api.Range, floor int) api.Range {
	return Both(r, api.Range{Lo: floor, Hi: math.MaxInt})
}
