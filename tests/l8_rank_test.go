package tests

import (
	"slices"
	"testing"

	"loop.example/g01394/impl"
)

// nextBinding changes the last place that a greater number can have, and sets the least ones behind it.
func nextBinding(binding []int) []int {
	for place := len(binding) - 1; place >= 0; place-- {
		var numbers, greater []int
		for _, number := range binding[place:] {
			numbers = append(numbers, number, -number)
		}
		for _, number := range numbers {
			if number > binding[place] {
				greater = append(greater, number)
			}
		}
		if len(greater) == 0 {
			continue
		}
		next := append(slices.Clone(binding[:place]), slices.Min(greater))
		slices.Sort(numbers)
		for _, number := range numbers {
			if number < 0 && number != next[place] && number != -next[place] {
				next = append(next, number)
			}
		}
		return next
	}
	return nil
}

func TestRanksOfAllBindings(t *testing.T) {
	for many := 1; many <= 6; many++ {
		all := allBindings(many)
		n, ok := impl.CountBindings(many)
		expect(t, call("CountBindings", many), got(n, ok), got(len(all), true))
		for rank, want := range all {
			if n, ok := impl.RankOfBinding(want); n != rank || !ok {
				t.Errorf("RankOfBinding(%v) is %d, %v, not %d", want, n, ok, rank)
			}
			if binding, ok := impl.BindingOfRank(many, rank); !slices.Equal(binding, want) || !ok {
				t.Errorf("BindingOfRank(%d, %d) is %v, %v, not %v", many, rank, binding, ok, want)
			}
		}
		wantZero(t, "BindingOfRank", impl.BindingOfRank, many, len(all))
	}
}

func TestRanksOfManyLeaves(t *testing.T) {
	for many := 7; many <= impl.MaxBound; many++ {
		count, _ := impl.CountBindings(many)
		for rank := 0; rank+1 < count; rank += 1009 {
			binding, ok := impl.BindingOfRank(many, rank)
			next, fine := impl.BindingOfRank(many, rank+1)
			if want := nextBinding(binding); !slices.Equal(next, want) || !ok || !fine {
				t.Errorf("BindingOfRank(%d, %d) is %v, not %v", many, rank+1, next, want)
			}
			if n, ok := impl.RankOfBinding(binding); n != rank || !ok {
				t.Errorf("RankOfBinding(%v) is %d, %v, not %d", binding, n, ok, rank)
			}
		}
	}
}

func TestRanksByHand(t *testing.T) {
	for _, c := range []struct {
		text string
		rank int
	}{
		{"-1", 0},
		{"+1", 1},
		{"-2-1", 0},
		{"-2+1", 1},
		{"-1-2", 2},
		{"-1+2", 3},
		{"+1-2", 4},
		{"+1+2", 5},
		{"+2-1", 6},
		{"+2+1", 7},
		{"-3-2-1", 0},
		{"+1-3-2", 24},
		{"+1+2+3", 29},
		{"+3+2+1", 47},
		{"-5-4-3-2-1", 0},
		{"+5+4+3+2+1", 3839},
		{"+7+6+5+4+3+2+1", 645119},
		{"-8-7-6-5-4-3-2-1", 0},
		{"-8-7-6-5-4-3-2+1", 1},
		{"-8-7-6-5-4-3-1-2", 2},
		// With each of sixteen numbers in front there are as many bindings.
		{"-7-8-6-5-4-3-2-1", 645120},
		{"-1+8+7+6+5+4+3+2", 8*645120 - 1},
		{"+1-8-7-6-5-4-3-2", 8 * 645120},
		{"+8-7-6-5-4-3-2-1", 15 * 645120},
		{"+8+7+6+5+4+3+1+2", 10321917},
		{"+8+7+6+5+4+3+2-1", 10321918},
		{"+8+7+6+5+4+3+2+1", 10321919},
	} {
		want := parsedBinding(t, c.text)
		n, ok := impl.RankOfBinding(want)
		expect(t, call("RankOfBinding", c.text), got(n, ok), got(c.rank, true))
		binding, ok := impl.BindingOfRank(len(want), c.rank)
		expect(t, call("BindingOfRank", len(want), c.rank), got(binding, ok), got(want, true))
	}
}

func TestCountBindings(t *testing.T) {
	for k, want := range []int{2, 8, 48, 384, 3840, 46080, 645120, 10321920} {
		n, ok := impl.CountBindings(k + 1)
		expect(t, call("CountBindings", k+1), got(n, ok), got(want, true))
		wantZero(t, "BindingOfRank", impl.BindingOfRank, k+1, want)
	}
}
