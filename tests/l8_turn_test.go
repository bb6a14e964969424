package tests

import (
	"math"
	"slices"
	"testing"

	"loop.example/g01394/impl"
)

func plainTurned(binding []int, from, to int) []int {
	var turned []int
	for place, number := range binding {
		if place >= from && place <= to {
			number = -binding[from+to-place]
		}
		turned = append(turned, number)
	}
	return turned
}

func turnsOf(binding []int) [][]int {
	var all [][]int
	for from := range binding {
		for to := from; to < len(binding); to++ {
			all = append(all, plainTurned(binding, from, to))
		}
	}
	return all
}

// farFromRight returns how many turns lead to each binding of so many leaves from the right one.
func farFromRight(many int) map[standing]int { return farFrom(rightBinding(many), turnsOf) }

// turnsByHand tries all lists of so many turns in order, but those behind which too few turns are left.
func turnsByHand(binding []int, left int, far map[standing]int) ([][]int, bool) {
	if far[standingOf(binding)] > left {
		return nil, false
	}
	if left == 0 {
		return [][]int{}, true
	}
	for from := range binding {
		for to := from; to < len(binding); to++ {
			if behind, ok := turnsByHand(plainTurned(binding, from, to), left-1, far); ok {
				return append([][]int{{from, to}}, behind...), true
			}
		}
	}
	return nil, false
}

func TestTurnPart(t *testing.T) {
	for _, binding := range someBindings() {
		for from := range binding {
			for to := from; to < len(binding); to++ {
				turned, ok := impl.TurnPart(binding, from, to)
				expect(t, call("TurnPart", binding, from, to), got(turned, ok), got(plainTurned(binding, from, to), true))
			}
		}
	}
}

func TestTurnPartByHand(t *testing.T) {
	for _, c := range []struct {
		text     string
		from, to int
		want     string
	}{
		{"+1", 0, 0, "-1"},
		{"-1", 0, 0, "+1"},
		{"+1+2", 0, 1, "-2-1"},
		{"+1+2", 1, 1, "+1-2"},
		{"+1-3-2", 0, 0, "-1-3-2"},
		{"+1-3-2", 0, 1, "+3-1-2"},
		{"+1-3-2", 0, 2, "+2+3-1"},
		{"+1+2+3+4+5+6+7+8", 0, 7, "-8-7-6-5-4-3-2-1"},
		{"+1+2+3+4+5+6+7+8", 2, 5, "+1+2-6-5-4-3+7+8"},
		{"+1+2+3+4+5+6+7+8", 7, 7, "+1+2+3+4+5+6+7-8"},
		{"-8+7-6+5-4+3-2+1", 1, 7, "-8-1+2-3+4-5+6-7"},
	} {
		turned, ok := impl.TurnPart(parsedBinding(t, c.text), c.from, c.to)
		expect(t, call("TurnPart", c.text, c.from, c.to), got(plainBindingText(turned), ok), got(c.want, true))
	}
}

// someTurns returns so many turns of a binding, which follow no rule that one could see.
func someTurns(many, leaves int) [][]int {
	turns := [][]int{}
	next := many*100 + leaves
	for range many {
		next = next * 75 % 65537
		a, b := next%leaves, next/11%leaves
		turns = append(turns, []int{min(a, b), max(a, b)})
	}
	return turns
}

func TestTurnParts(t *testing.T) {
	for _, binding := range manyLeaves() {
		for many := range impl.MaxTurns + 1 {
			turns := someTurns(many, len(binding))
			want := binding
			for _, turn := range turns {
				want = plainTurned(want, turn[0], turn[1])
			}
			turned, ok := impl.TurnParts(binding, turns)
			expect(t, call("TurnParts", binding, turns), got(turned, ok), got(want, true))
		}
		wantZero(t, "TurnParts", impl.TurnParts, binding, someTurns(impl.MaxTurns+1, len(binding)))
	}
}

func TestTurnPartsByHand(t *testing.T) {
	first := []int{0, 0}
	for _, c := range []struct {
		text  string
		turns [][]int
		want  string
	}{
		{"+1", nil, "+1"},
		{"-1", [][]int{}, "-1"},
		{"+8+7+6+5+4+3+2+1", nil, "+8+7+6+5+4+3+2+1"},
		{"+1", slices.Repeat([][]int{first}, 39), "-1"},
		{"+1", slices.Repeat([][]int{first}, 40), "+1"},
		{"+1-3-2", [][]int{{1, 2}}, "+1+2+3"},
		{"+1-3-2", [][]int{{1, 2}, {1, 2}}, "+1-3-2"},
		{"+2+1", [][]int{{0, 0}, {0, 1}, {0, 0}}, "+1+2"},
		// The places are those behind the turns before.
		{"+1+2+3", [][]int{{0, 2}, {0, 0}, {1, 2}}, "+3+1+2"},
	} {
		turned, ok := impl.TurnParts(parsedBinding(t, c.text), c.turns)
		expect(t, call("TurnParts", c.text, c.turns), got(plainBindingText(turned), ok), got(c.want, true))
	}
}

// wantTurns looks at the fewest turns, and at the first list of so few.
func wantTurns(t *testing.T, binding []int, far map[standing]int) {
	t.Helper()
	few := far[standingOf(binding)]
	n, ok := impl.FewestTurns(binding)
	expect(t, call("FewestTurns", binding), got(n, ok), got(few, true))
	want, _ := turnsByHand(binding, few, far)
	turns, ok := impl.FirstTurns(binding)
	expect(t, call("FirstTurns", binding), got(notNil(turns), ok), got(want, true))
}

func TestTurnsOfFewLeaves(t *testing.T) {
	for many := 1; many <= 4; many++ {
		far := farFromRight(many)
		for _, binding := range allBindings(many) {
			wantTurns(t, binding, far)
		}
	}
}

// TestTurnsOfMostLeaves takes those that need the most turns, and one out of some of all others.
func TestTurnsOfMostLeaves(t *testing.T) {
	far := farFromRight(impl.MaxTurned)
	for k, binding := range allBindings(impl.MaxTurned) {
		if k%23 == 0 || far[standingOf(binding)] < 2 || far[standingOf(binding)] > 5 {
			wantTurns(t, binding, far)
		}
	}
}

func TestTurnsByHand(t *testing.T) {
	for _, c := range []struct {
		text string
		want [][]int
	}{
		{"+1", [][]int{}},
		{"-1", [][]int{{0, 0}}},
		{"+1+2", [][]int{}},
		{"-2-1", [][]int{{0, 1}}},
		// Both leaves are turned, the first one first, or the second one.
		{"-1-2", [][]int{{0, 0}, {1, 1}}},
		{"+2-1", [][]int{{0, 0}, {0, 1}}},
		{"-2+1", [][]int{{0, 1}, {0, 0}}},
		{"+2+1", [][]int{{0, 0}, {0, 1}, {0, 0}}},
		{"+1+2+3+4+5", [][]int{}},
		{"-5-4-3-2-1", [][]int{{0, 4}}},
		{"+1+2+3+4-5", [][]int{{4, 4}}},
		{"-1-2-3-4-5", [][]int{{0, 0}, {1, 1}, {2, 2}, {3, 3}, {4, 4}}},
	} {
		binding := parsedBinding(t, c.text)
		turns, ok := impl.FirstTurns(binding)
		expect(t, call("FirstTurns", c.text), got(notNil(turns), ok), got(c.want, true))
		n, ok := impl.FewestTurns(binding)
		expect(t, call("FewestTurns", c.text), got(n, ok), got(len(c.want), true))
	}
}

// TestFirstTurnsMakeRight holds promise 8 against the calls themselves: the turns make right, and no turn leads to a binding from which it is faster.
func TestFirstTurnsMakeRight(t *testing.T) {
	for _, binding := range append(fewLeaves(3), []int{2, 1, 3, 5, 4}, []int{-3, 5, 1, -4, 2}, []int{4, -2, -1, 3}) {
		few, _ := impl.FewestTurns(binding)
		turns, _ := impl.FirstTurns(binding)
		right, ok := impl.TurnParts(binding, turns)
		expect(t, call("the turns of", binding), got(right, ok, len(turns)), got(rightBinding(len(binding)), true, few))
		least := math.MaxInt
		for from := range binding {
			for to := from; to < len(binding); to++ {
				turned, _ := impl.TurnPart(binding, from, to)
				fewer, _ := impl.FewestTurns(turned)
				least = min(least, fewer)
			}
		}
		if few > 0 {
			expect(t, call("the fewest turns behind one of", binding), least, few-1)
		}
		if breaks, _ := impl.BreaksOf(binding); breaks > 2*few || (breaks == 0) != (few == 0) {
			t.Errorf("%v has %d breaks and needs %d turns", binding, breaks, few)
		}
	}
}

func TestFarthestBindings(t *testing.T) {
	for many := 1; many <= impl.MaxTurned; many++ {
		far := farFromRight(many)
		var first []int
		most := -1
		for _, binding := range allBindings(many) {
			if n := far[standingOf(binding)]; n > most {
				first, most = binding, n
			}
		}
		binding, n, ok := impl.FarthestBinding(many)
		expect(t, call("FarthestBinding", many), got(binding, n, ok), got(first, most, true))
		sum := 0
		for turns := range most + 3 {
			want := 0
			for _, n := range far {
				if n == turns {
					want++
				}
			}
			count, ok := impl.CountByTurns(many, turns)
			expect(t, call("CountByTurns", many, turns), got(count, ok), got(want, true))
			sum += count
		}
		all, _ := impl.CountBindings(many)
		expect(t, call("all bindings", many), sum, all)
	}
}

func TestFarthestBindingsByHand(t *testing.T) {
	for _, c := range []struct {
		leaves int
		text   string
		turns  int
		counts []int
	}{
		{1, "-1", 1, []int{1, 1, 0, 0}},
		{2, "+2+1", 3, []int{1, 3, 3, 1, 0}},
		// Of those that need three turns this is the first one, not the one with the lesser leaves in front.
		{3, "-3-1-2", 3, []int{1, 6, 16, 25, 0}},
		{4, "+2+1+4+3", 5, []int{1, 10, 50, 170, 145, 8, 0}},
		{5, "+2+1+3+5+4", 6, []int{1, 15, 120, 700, 1554, 1447, 3, 0}},
	} {
		binding, n, ok := impl.FarthestBinding(c.leaves)
		expect(t, call("FarthestBinding", c.leaves), got(plainBindingText(binding), n, ok), got(c.text, c.turns, true))
		for turns, want := range c.counts {
			n, ok := impl.CountByTurns(c.leaves, turns)
			expect(t, call("CountByTurns", c.leaves, turns), got(n, ok), got(want, true))
		}
		for _, turns := range []int{8, 40, 41, 3840, math.MaxInt} {
			n, ok := impl.CountByTurns(c.leaves, turns)
			expect(t, call("CountByTurns", c.leaves, turns), got(n, ok), got(0, true))
		}
	}
}
