package tests

import (
	"fmt"
	"math"
	"testing"
)

// got packs the results of a call, so that all of them are compared at once.
func got(results ...any) string { return fmt.Sprintf("%#v", results) }

func call(name string, arguments ...any) string { return fmt.Sprintf("%s%v", name, arguments) }

func expect(t *testing.T, what string, is, want any) {
	t.Helper()
	if a, b := fmt.Sprintf("%v", is), fmt.Sprintf("%v", want); a != b {
		t.Errorf("%s is %s, not %s", what, a, b)
	}
}

// outside has numbers below least and above most, the nearest ones and the farthest ones.
func outside(least, most int) []int {
	return []int{math.MinInt, math.MinInt + 1, least - 1000003, least - 1, most + 1, most + 1000003, math.MaxInt - 1, math.MaxInt}
}

// anyNumbers has numbers at and beside the limits of the document, and the ends of the type.
func anyNumbers() []int {
	numbers := []int{math.MinInt, math.MinInt + 1, math.MinInt / 2, math.MaxInt / 2, math.MaxInt - 1, math.MaxInt}
	for _, n := range []int{0, 7, 9, 10, 16, 99, 100, 400, 1000, 2000, 6893, 4000000} {
		numbers = append(numbers, -n-1, -n, n-1, n, n+1)
	}
	return numbers
}
