package tests

import (
	"math"
	"slices"
	"strings"
	"testing"

	"loop.example/g01394/impl"
)

// noBindings has lists with a leaf that is none, with one that is told twice, or not at all, and with too many or too few.
func noBindings() [][]int {
	none := [][]int{
		nil, {}, {0}, {0, 1}, {1, 0}, {1, 0, 2}, {1, 2, 0}, {1, 1}, {-1, -1}, {1, -1}, {-1, 1}, {2}, {-2}, {2, 2}, {-2, 2}, {1, 3}, {-3, -1}, {2, 3}, {1, 2, 2}, {1, -2, 2}, {3, 1, -3}, {1, 2, 4},
		{1, 2, 3, 4, 5, 6, 7, 0}, {0, 1, 2, 3, 4, 5, 6, 7}, {1, 2, 3, 4, 5, 6, 7, 7}, {1, 2, 3, 4, 5, 6, 7, -7}, {1, 2, 3, 4, 5, 6, 7, 9}, {-9, 1, 2, 3, 4, 5, 6, 7}, {2, 3, 4, 5, 6, 7, 8, 9},
		{1, 2, 3, 4, 5, 6, 7, 8, 9}, {-9, -8, -7, -6, -5, -4, -3, -2, -1}, {1, 2, 3, 4, 5, 6, 7, 8, 8}, {1, 2, 3, 4, 5, 6, 7, 8, 0}, make([]int, 8), rightBinding(1000), slices.Repeat([]int{1}, 100000),
		{math.MinInt, math.MinInt}, {math.MaxInt, math.MinInt},
	}
	for _, n := range append(outside(-3, 3), 0) {
		none = append(none, []int{n}, []int{n, 2}, []int{1, n}, []int{n, 2, 3}, []int{1, n, 3}, []int{-3, -2, n})
	}
	for _, n := range append(outside(-8, 8), 0) {
		none = append(none, []int{1, 2, 3, 4, 5, 6, 7, n}, []int{n, -2, 3, -4, 5, -6, 7, -8})
	}
	return none
}

func ofBindings() map[string]any {
	return map[string]any{
		"PagesRead": impl.PagesRead, "CountTurned": impl.CountTurned, "BreaksOf": impl.BreaksOf, "FewestTurns": impl.FewestTurns, "FirstTurns": impl.FirstTurns,
		"FewestCuts": impl.FewestCuts, "RankOfBinding": impl.RankOfBinding, "BindingText": impl.BindingText,
	}
}

func TestNoBindings(t *testing.T) {
	for _, none := range noBindings() {
		for name, function := range ofBindings() {
			wantZero(t, name, function, none)
		}
		for k := range 3 {
			wantZero(t, "PlaceOfLeaf", impl.PlaceOfLeaf, none, k)
			wantZero(t, "OpenAt", impl.OpenAt, none, k)
			wantZero(t, "TurnPart", impl.TurnPart, none, 0, k)
			wantZero(t, "CutPart", impl.CutPart, none, 0, k, 0)
			wantZero(t, "CutPart", impl.CutPart, none, 0, 0, k)
		}
		for _, turns := range [][][]int{nil, {}, {{0, 0}}, {{0, 0}, {0, 0}}} {
			wantZero(t, "TurnParts", impl.TurnParts, none, turns)
		}
	}
}

// TestInvalidPlacesOfBindings takes bindings with more leaves in the room behind them.
func TestInvalidPlacesOfBindings(t *testing.T) {
	for many := 1; many <= impl.MaxBound; many++ {
		binding := rightBinding(impl.MaxBound + 2)[:many]
		for _, leaf := range append(outside(1, many), negated(binding)...) {
			wantZero(t, "PlaceOfLeaf", impl.PlaceOfLeaf, binding, leaf)
		}
		wantZero(t, "PlaceOfLeaf", impl.PlaceOfLeaf, binding, 0)
		wantZero(t, "PlaceOfLeaf", impl.PlaceOfLeaf, negated(binding), -1)
		for _, place := range outside(0, many-1) {
			wantZero(t, "OpenAt", impl.OpenAt, binding, place)
			for other := range many {
				failsForPart(t, binding, place, other)
				failsForPart(t, binding, other, place)
				wantZero(t, "CutPart", impl.CutPart, binding, other, other, place)
				wantZero(t, "CutPart", impl.CutPart, binding, 0, other, place)
			}
			failsForPart(t, binding, place, place)
		}
		for from := range many {
			for to := range from {
				failsForPart(t, binding, from, to)
			}
		}
	}
}

func failsForPart(t *testing.T, binding []int, from, to int) {
	t.Helper()
	wantZero(t, "TurnPart", impl.TurnPart, binding, from, to)
	wantZero(t, "TurnParts", impl.TurnParts, binding, [][]int{{from, to}})
	for at := range len(binding) + 1 {
		wantZero(t, "CutPart", impl.CutPart, binding, from, to, at)
	}
}

// noTurns has turns of parts that three leaves do not have, or that are not told by both places.
func noTurns() [][]int {
	none := [][]int{nil, {}, {0}, {1}, {0, 1, 2}, {0, 0, 0}, {1, 2, 2}, {1, 0}, {2, 0}, {2, 1}, {0, 3}, {3, 3}, {-1, 0}, {-1, -1}, {-3, -1}, make([]int, 100000)}
	for _, n := range outside(0, 2) {
		none = append(none, []int{n, n}, []int{0, n}, []int{n, 2}, []int{n}, []int{0, 1, n})
	}
	return none
}

func TestInvalidTurns(t *testing.T) {
	binding := []int{1, -3, -2, 4}[:3]
	for _, none := range noTurns() {
		for _, before := range []int{0, 1, 2, 38, 39} {
			turns := append(slices.Repeat([][]int{{0, 2}}, before), none)
			wantZero(t, "TurnParts", impl.TurnParts, binding, turns)
			if before < 39 {
				wantZero(t, "TurnParts", impl.TurnParts, binding, append(turns, []int{0, 2}))
			}
		}
	}
	for _, many := range []int{41, 42, 80, 1000, 100000} {
		for _, turn := range [][]int{{0, 0}, {0, 2}, {1, 2}, nil} {
			wantZero(t, "TurnParts", impl.TurnParts, binding, slices.Repeat([][]int{turn}, many))
		}
	}
}

func TestTooManyTurned(t *testing.T) {
	for _, binding := range manyLeaves() {
		wantZero(t, "FewestTurns", impl.FewestTurns, binding)
		wantZero(t, "FirstTurns", impl.FirstTurns, binding)
	}
	for _, leaves := range append(outside(1, impl.MaxTurned), 0, 7, 8, 9) {
		wantZero(t, "FarthestBinding", impl.FarthestBinding, leaves)
		for _, turns := range []int{-1, 0, 1, 6, 7, math.MaxInt} {
			wantZero(t, "CountByTurns", impl.CountByTurns, leaves, turns)
		}
	}
	for leaves := 1; leaves <= impl.MaxTurned; leaves++ {
		for _, turns := range []int{-1, -2, -7, -40, -1000003, math.MinInt + 1, math.MinInt} {
			wantZero(t, "CountByTurns", impl.CountByTurns, leaves, turns)
		}
	}
}

func TestInvalidRanks(t *testing.T) {
	for _, leaves := range append(outside(1, impl.MaxBound), 0) {
		wantZero(t, "CountBindings", impl.CountBindings, leaves)
		for _, rank := range []int{-1, 0, 1, 100, math.MaxInt} {
			wantZero(t, "BindingOfRank", impl.BindingOfRank, leaves, rank)
		}
	}
	for leaves := 1; leaves <= impl.MaxBound; leaves++ {
		count, _ := impl.CountBindings(leaves)
		for _, rank := range outside(0, count-1) {
			wantZero(t, "BindingOfRank", impl.BindingOfRank, leaves, rank)
		}
	}
}

func TestTextsOfNoBindings(t *testing.T) {
	texts := []string{
		"", "+", "-", "1", "+-", "+0", "-0", "0", "+2", "-2", "+1+", "+1-", "+1+1", "+1-1", "+1+0", "+0+1", "+1+3", "+2+3", "1+2", "+12", "+1 2", "1-3-2", "+13-2", "+1-32", "+1-3-", "+1-3+", "+1-3-2+", "+1-3-22",
		"+01", "+01+02", "+1-03-2", "+1-3-02", "-01", "+001", "++1", "--1", "+-1", "-+1", "+1++2", "+1,-3,-2", "+1 -3 -2", " +1", "+1 ", "+1\n", "\n+1", "+1\x00", "\x00+1", "+1.", "+1-3-2,", "*1", "+x", "+1-3-x", "+1-3x2", "1+", "1+3-2-",
		"＋1", "+１", "+١", "−1", "\xff", "+\xff", "+1\xff", "\xff1", "+1-3-\xb2", "_1", "+_", "0x1", "+1e0", "+a", "+1+10", "+10", "-9",
		"+1+2+3+4+5+6+8", "+1+2+3+4+5+6+7+9", "+1+2+3+4+5+6+7+7", "+1+2+3+4+5+6+7+0", "+1+2+3+4+5+6+7+8+9", "+1+2+3+4+5+6+7+8+", "+1+2+3+4+5+6+7+8 ", "+1+2+3+4+5+6+7+8+8", "+1+2+3+4+5+6+7+08", "+1+2+3+4+5+6+7+8+0",
		"+18446744073709551617", "-9223372036854775809", strings.Repeat("+1", 8), strings.Repeat("+1", 100000), strings.Repeat("+", 100000), strings.Repeat("0", 100000) + "1", "+1" + strings.Repeat(" ", 100000), strings.Repeat("+1-3-2", 3),
	}
	for _, text := range texts {
		wantZero(t, "ParseBinding", impl.ParseBinding, text)
	}
}

func TestAnyBindings(t *testing.T) {
	good := []int{1, -3, -2}
	for _, a := range anyNumbers() {
		checkZero(t, "FarthestBinding", impl.FarthestBinding, a)
		checkZero(t, "CountBindings", impl.CountBindings, a)
		checkZero(t, "PlaceOfLeaf", impl.PlaceOfLeaf, good, a)
		checkZero(t, "OpenAt", impl.OpenAt, good, a)
		for _, b := range anyNumbers() {
			for name, function := range ofBindings() {
				checkZero(t, name, function, []int{a, b})
				checkZero(t, name, function, []int{a, -2, b})
			}
			checkZero(t, "TurnPart", impl.TurnPart, good, a, b)
			checkZero(t, "TurnParts", impl.TurnParts, good, [][]int{{a, b}, {b, a}, {0, a}})
			checkZero(t, "TurnParts", impl.TurnParts, []int{a, b}, [][]int{{0, 1}})
			for _, at := range []int{math.MinInt, -1, 0, 1, 2, 3, math.MaxInt} {
				checkZero(t, "CutPart", impl.CutPart, good, a, b, at)
				checkZero(t, "CutPart", impl.CutPart, good, a, at, b)
				checkZero(t, "CutPart", impl.CutPart, []int{a, b}, 0, 0, at)
			}
			checkZero(t, "BindingOfRank", impl.BindingOfRank, a, b)
			checkZero(t, "CountByTurns", impl.CountByTurns, a, b)
		}
	}
}
