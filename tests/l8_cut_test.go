package tests

import (
	"slices"
	"testing"

	"loop.example/g01394/impl"
)

// plainCut puts a leaf that is not in the part, or the part as a whole, to each place in turn.
func plainCut(binding []int, from, to, at int) []int {
	var others, cut []int
	for place, number := range binding {
		if place < from || place > to {
			others = append(others, number)
		}
	}
	for place := 0; place <= len(others); place++ {
		if place == at {
			cut = append(cut, binding[from:to+1]...)
		}
		if place < len(others) {
			cut = append(cut, others[place])
		}
	}
	return cut
}

// cutsOf takes out each leaf and puts it in everywhere, turned or not.
func cutsOf(binding []int) [][]int {
	var all [][]int
	for from := range binding {
		for at := range binding {
			cut := plainCut(binding, from, from, at)
			all = append(all, cut, plainTurned(cut, at, at))
		}
	}
	return all
}

// plainCuts tries all lists of leaves that stay.
func plainCuts(binding []int) int {
	stay := 0
	for chosen := range 1 << len(binding) {
		many, before, rises := 0, 0, true
		for place, number := range binding {
			if chosen>>place&1 == 1 {
				rises = rises && number > before
				before = number
				many++
			}
		}
		if rises {
			stay = max(stay, many)
		}
	}
	return len(binding) - stay
}

func TestCutPart(t *testing.T) {
	for _, binding := range someBindings() {
		for from := range binding {
			for to := from; to < len(binding); to++ {
				last := len(binding) - 1 - (to - from)
				for at := range last + 1 {
					cut, ok := impl.CutPart(binding, from, to, at)
					expect(t, call("CutPart", binding, from, to, at), got(cut, ok), got(plainCut(binding, from, to, at), true))
				}
				for at := last + 1; at <= len(binding)+1; at++ {
					wantZero(t, "CutPart", impl.CutPart, binding, from, to, at)
				}
			}
		}
	}
}

func TestCutPartByHand(t *testing.T) {
	for _, c := range []struct {
		text         string
		from, to, at int
		want         string
	}{
		{"+1", 0, 0, 0, "+1"},
		{"-1", 0, 0, 0, "-1"},
		{"+2+1", 0, 0, 1, "+1+2"},
		{"+2-1", 1, 1, 0, "-1+2"},
		{"+1-3-2", 1, 1, 1, "+1-3-2"},
		{"+1-3-2", 1, 1, 2, "+1-2-3"},
		{"+1-3-2", 1, 2, 0, "-3-2+1"},
		{"+1-3-2", 0, 1, 1, "-2+1-3"},
		{"+1-3-2", 0, 2, 0, "+1-3-2"},
		{"+1+2+3+4+5+6+7+8", 0, 7, 0, "+1+2+3+4+5+6+7+8"},
		{"+1+2+3+4+5+6+7+8", 0, 2, 5, "+4+5+6+7+8+1+2+3"},
		{"+1+2+3+4+5+6+7+8", 5, 7, 0, "+6+7+8+1+2+3+4+5"},
		{"+1+2+3+4+5+6+7+8", 2, 3, 4, "+1+2+5+6+3+4+7+8"},
		{"+1+2+3+4+5+6+7+8", 4, 6, 3, "+1+2+3+5+6+7+4+8"},
		{"+1+2+3+4+5+6+7+8", 0, 0, 7, "+2+3+4+5+6+7+8+1"},
		{"+1+2+3+4+5+6+7+8", 0, 6, 1, "+8+1+2+3+4+5+6+7"},
	} {
		cut, ok := impl.CutPart(parsedBinding(t, c.text), c.from, c.to, c.at)
		expect(t, call("CutPart", c.text, c.from, c.to, c.at), got(plainBindingText(cut), ok), got(c.want, true))
	}
}

func TestFewestCuts(t *testing.T) {
	for many := 1; many <= 5; many++ {
		far := farFrom(rightBinding(many), cutsOf)
		for _, binding := range allBindings(many) {
			n, ok := impl.FewestCuts(binding)
			expect(t, call("FewestCuts", binding), got(n, ok), got(far[standingOf(binding)], true))
		}
	}
	for _, binding := range slices.Concat(allBindings(6), manyLeaves()) {
		if n, ok := impl.FewestCuts(binding); n != plainCuts(binding) || !ok {
			t.Errorf("FewestCuts(%v) is %d, %v", binding, n, ok)
		}
	}
}
