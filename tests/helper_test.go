package tests

import (
	"fmt"
	"math"
	"reflect"
	"runtime"
	"slices"
	"testing"
	"time"
)

// got packs the results of a call, so that all of them are compared at once.
func got(results ...any) string { return fmt.Sprintf("%#v", results) }

func call(name string, arguments ...any) string { return fmt.Sprintf("%s%v", name, arguments) }

func expect(t *testing.T, what string, is, want any) {
	t.Helper()
	if a, b := fmt.Sprintf("%v", is), fmt.Sprintf("%v", want); a != b {
		t.Errorf("%s is %s, not %s", what, a, b)
	}
}

// outside has numbers below least and above most, the nearest ones and the farthest ones.
func outside(least, most int) []int {
	return []int{math.MinInt, math.MinInt + 1, least - 1000003, least - 1, most + 1, most + 1000003, math.MaxInt - 1, math.MaxInt}
}

// anyNumbers has numbers at and beside the limits of the document, and the ends of the type.
func anyNumbers() []int {
	numbers := []int{math.MinInt, math.MinInt + 1, math.MinInt / 2, math.MaxInt / 2, math.MaxInt - 1, math.MaxInt}
	for _, n := range []int{0, 7, 9, 10, 12, 16, 30, 60, 80, 99, 100, 200, 400, 1000, 2000, 3000, 6893, 4000000} {
		numbers = append(numbers, -n-1, -n, n-1, n, n+1)
	}
	return numbers
}

// zeroUnlessOK looks at the results of a call, the last of which tells whether it succeeded.
func zeroUnlessOK(t *testing.T, what string, results ...any) {
	t.Helper()
	if results[len(results)-1] == true {
		return
	}
	for _, result := range results {
		if v := reflect.ValueOf(result); !v.IsZero() && (v.Kind() != reflect.Slice || v.Len() > 0) {
			t.Errorf("%s fails with %v", what, results)
		}
	}
}

// checkZero calls a function of any kind, and looks at its results.
func checkZero(t *testing.T, name string, function any, arguments ...any) {
	t.Helper()
	zeroUnlessOK(t, call(name, arguments...), resultsOf(function, arguments)...)
}

// wantZero calls a function of any kind, and expects that it fails with nothing but zeros.
func wantZero(t *testing.T, name string, function any, arguments ...any) {
	t.Helper()
	results := resultsOf(function, arguments)
	what := call(name, arguments...)
	if results[len(results)-1] != false {
		t.Errorf("%s succeeds with %v", what, results)
	}
	zeroUnlessOK(t, what, results...)
}

func resultsOf(function any, arguments []any) []any {
	var values []reflect.Value
	for _, argument := range arguments {
		values = append(values, reflect.ValueOf(argument))
	}
	var results []any
	for _, result := range reflect.ValueOf(function).Call(values) {
		results = append(results, result.Interface())
	}
	return results
}

// mixedLists has lists of least up to most numbers, some of numbers up to each limit, which follow no rule that one could see.
func mixedLists(least, most, times int, limits ...int) [][]int {
	var lists [][]int
	next := 1
	for many := least; many <= most; many++ {
		for _, limit := range limits {
			for range times {
				var list []int
				for range many {
					next = next * 75 % 65537
					list = append(list, next%limit+1)
				}
				lists = append(lists, list)
			}
		}
	}
	return lists
}

// allLists returns all lists of so many numbers from least up to most, in order.
func allLists(many, least, most int) [][]int {
	lists := [][]int{{}}
	for range many {
		var longer [][]int
		for _, list := range lists {
			for n := least; n <= most; n++ {
				longer = append(longer, append(slices.Clone(list), n))
			}
		}
		lists = longer
	}
	return lists
}

// notNil tells no nil list from an empty one, as the document does not.
func notNil[T any](list []T) []T { return append([]T{}, list...) }

// wantOwnMemory puts other items into a returned list, and behind its length, and expects that neither a second call nor the room of the arguments has changed.
func wantOwnMemory[T any](t *testing.T, name string, list func() []T, room any, other T) {
	t.Helper()
	first := list()
	before, roomBefore := got(first), got(room)
	for k := range first {
		first[k] = other
	}
	_ = append(first, other, other)
	expect(t, "a second "+name, got(list()), before)
	expect(t, "the room behind "+name, got(room), roomBefore)
}

// wantNoneLeft makes calls again and again, and expects that all goroutines of them end.
func wantNoneLeft(t *testing.T, calls func()) {
	t.Helper()
	before := runtime.NumGoroutine()
	for range 1000 {
		calls()
	}
	// A goroutine that has done its last step is counted for a moment still.
	for wait := 0; runtime.NumGoroutine() > before && wait < 1000; wait++ {
		time.Sleep(time.Millisecond)
	}
	if after := runtime.NumGoroutine(); after > before {
		t.Error(after-before, "goroutines are left")
	}
}
