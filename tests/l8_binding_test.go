package tests

import (
	"fmt"
	"slices"
	"testing"

	"loop.example/g01394/impl"
)

func rightBinding(many int) []int {
	var binding []int
	for leaf := 1; leaf <= many; leaf++ {
		binding = append(binding, leaf)
	}
	return binding
}

// bindingsFrom returns all bindings of so many leaves that begin with these, in order.
func bindingsFrom(begun []int, many int) [][]int {
	if len(begun) == many {
		return [][]int{begun}
	}
	var all [][]int
	for number := -many; number <= many; number++ {
		if number != 0 && !slices.Contains(begun, number) && !slices.Contains(begun, -number) {
			all = append(all, bindingsFrom(append(slices.Clone(begun), number), many)...)
		}
	}
	return all
}

func allBindings(many int) [][]int { return bindingsFrom(nil, many) }

// fewLeaves has all bindings of up to so many leaves.
func fewLeaves(most int) [][]int {
	var all [][]int
	for many := 1; many <= most; many++ {
		all = append(all, allBindings(many)...)
	}
	return all
}

// manyLeaves has bindings of 6 up to 8 leaves: right ones, all leaves turned or backward, and some that follow no rule that one could see.
func manyLeaves() [][]int {
	var all [][]int
	next := 1
	for many := 6; many <= impl.MaxBound; many++ {
		right := rightBinding(many)
		back := slices.Clone(right)
		slices.Reverse(back)
		all = append(all, right, back, negated(right), negated(back), append(slices.Clone(right[1:]), 1), append([]int{-many}, right[:many-1]...))
		for range 40 {
			mixed := slices.Clone(right)
			for place := range mixed {
				next = next * 75 % 65537
				other := next / 7 % many
				mixed[place], mixed[other] = mixed[other], mixed[place]
				if next%3 == 0 {
					mixed[place] = -mixed[place]
				}
			}
			all = append(all, mixed)
		}
	}
	return all
}

func someBindings() [][]int { return append(fewLeaves(4), manyLeaves()...) }

func negated(list []int) []int {
	var others []int
	for _, number := range list {
		others = append(others, -number)
	}
	return others
}

func plainIsBinding(list []int) bool {
	var leaves []int
	for _, number := range list {
		leaves = append(leaves, max(number, -number))
	}
	slices.Sort(leaves)
	return len(list) > 0 && slices.Equal(leaves, rightBinding(len(list)))
}

func plainRead(binding []int) []int {
	var pages []int
	for _, number := range binding {
		if number > 0 {
			pages = append(pages, number+number-1, number+number)
		} else {
			pages = append(pages, -number-number, -number-number-1)
		}
	}
	return pages
}

func plainBreaks(binding []int) int {
	breaks := 0
	all := append(append([]int{0}, binding...), len(binding)+1)
	for place, number := range all[1:] {
		before := all[place]
		wanted := before + 1
		if before < 0 {
			wanted = -(-before - 1)
		}
		if number != wanted {
			breaks++
		}
	}
	return breaks
}

func plainBindingText(binding []int) string {
	text := ""
	for _, number := range binding {
		text += fmt.Sprintf("%+d", number)
	}
	return text
}

func parsedBinding(t *testing.T, text string) []int {
	t.Helper()
	binding, ok := impl.ParseBinding(text)
	expect(t, call("ParseBinding", text), ok, true)
	return binding
}

func TestLimitsOfBindings(t *testing.T) {
	expect(t, "the limits", []int{impl.MaxBound, impl.MaxTurned, impl.MaxTurns}, []int{8, 5, 40})
}

func TestBindingExample(t *testing.T) {
	binding := parsedBinding(t, "+1-3-2")
	pages, ok := impl.PagesRead(binding)
	expect(t, "PagesRead", got(pages, ok), got([]int{1, 2, 6, 5, 4, 3}, true))
	n, ok := impl.BreaksOf(binding)
	expect(t, "BreaksOf", got(n, ok), got(2, true))
	turns, ok := impl.FirstTurns(binding)
	expect(t, "FirstTurns", got(turns, ok), got([][]int{{1, 2}}, true))
	n, ok = impl.FewestTurns(binding)
	expect(t, "FewestTurns", got(n, ok), got(1, true))
	right, ok := impl.TurnPart(binding, 1, 2)
	expect(t, "TurnPart", got(right, ok), got([]int{1, 2, 3}, true))
	left, seen, ok := impl.OpenAt(binding, 0)
	expect(t, "OpenAt", got(left, seen, ok), got(2, 6, true))
	n, ok = impl.FewestCuts(binding)
	expect(t, "FewestCuts", got(n, ok), got(2, true))
	n, ok = impl.RankOfBinding(binding)
	expect(t, "RankOfBinding", got(n, ok), got(24, true))
	farthest, n, ok := impl.FarthestBinding(2)
	text, fine := impl.BindingText(farthest)
	expect(t, "FarthestBinding", got(text, n, ok, fine), got("+2+1", 3, true, true))
	n, ok = impl.CountByTurns(2, 2)
	expect(t, "CountByTurns", got(n, ok), got(3, true))
	cut, ok := impl.CutPart(binding, 1, 1, 0)
	text, fine = impl.BindingText(cut)
	expect(t, "CutPart", got(text, ok, fine), got("-3+1-2", true, true))
}

func TestConsoleExampleOfBindings(t *testing.T) {
	right, _ := impl.TurnPart(parsedBinding(t, "+1-3-2"), 1, 2)
	turns, ok := impl.FirstTurns(right)
	expect(t, "FirstTurns", got(notNil(turns), ok), got([][]int{}, true))
	cut, ok := impl.CutPart(right, 1, 1, 0)
	text, fine := impl.BindingText(cut)
	expect(t, "CutPart", got(text, ok, fine), got("+2+1+3", true, true))
}

func TestIsBinding(t *testing.T) {
	for many := 0; many <= 4; many++ {
		for _, list := range allLists(many, -many-1, many+1) {
			if is := impl.IsBinding(list); is != plainIsBinding(list) {
				t.Errorf("IsBinding(%v) is %v", list, is)
			}
		}
	}
	for _, binding := range append(fewLeaves(6), manyLeaves()...) {
		if !impl.IsBinding(binding) {
			t.Errorf("%v is none", binding)
		}
	}
	for _, list := range noBindings() {
		if impl.IsBinding(list) {
			t.Errorf("%v is one", list)
		}
	}
}

func TestLeavesOfBindings(t *testing.T) {
	for _, binding := range append(fewLeaves(5), manyLeaves()...) {
		pages, ok := impl.PagesRead(binding)
		expect(t, call("PagesRead", binding), got(pages, ok), got(plainRead(binding), true))
		turned := 0
		for place, number := range binding {
			if number < 0 {
				turned++
			}
			at, isTurned, ok := impl.PlaceOfLeaf(binding, max(number, -number))
			expect(t, call("PlaceOfLeaf", binding, number), got(at, isTurned, ok), got(place, number < 0, true))
		}
		n, ok := impl.CountTurned(binding)
		expect(t, call("CountTurned", binding), got(n, ok), got(turned, true))
		n, ok = impl.BreaksOf(binding)
		expect(t, call("BreaksOf", binding), got(n, ok), got(plainBreaks(binding), true))
	}
}

// TestPagesAreReadAsLeavesLie holds promise 8 against the calls themselves.
func TestPagesAreReadAsLeavesLie(t *testing.T) {
	for _, binding := range someBindings() {
		pages, _ := impl.PagesRead(binding)
		for leaf := 1; leaf <= len(binding); leaf++ {
			place, turned, _ := impl.PlaceOfLeaf(binding, leaf)
			front, back, _ := impl.PagesOfLeaf(leaf)
			if turned {
				front, back = back, front
			}
			expect(t, call("the pages of a leaf of", binding, leaf), pages[2*place:2*place+2], []int{front, back})
		}
		for from := range binding {
			for to := from; to < len(binding); to++ {
				part, _ := impl.TurnPart(binding, from, to)
				read, _ := impl.PagesRead(part)
				want := slices.Clone(pages)
				slices.Reverse(want[2*from : 2*to+2])
				expect(t, call("the pages behind a turn of", binding, from, to), read, want)
			}
		}
	}
}

func TestOpenAt(t *testing.T) {
	for _, binding := range append(fewLeaves(5), manyLeaves()...) {
		pages := append(plainRead(binding), 0)
		for place := range binding {
			left, right, ok := impl.OpenAt(binding, place)
			expect(t, call("OpenAt", binding, place), got(left, right, ok), got(pages[2*place+1], pages[2*place+2], true))
		}
	}
}

func TestOpenAtByHand(t *testing.T) {
	for _, c := range []struct {
		text               string
		place, left, right int
	}{
		{"+1", 0, 2, 0},
		{"-1", 0, 1, 0},
		{"+1-3-2", 0, 2, 6},
		{"+1-3-2", 1, 5, 4},
		{"+1-3-2", 2, 3, 0},
		{"+2+1", 0, 4, 1},
		{"+2+1", 1, 2, 0},
		{"-8+7-6+5-4+3-2+1", 0, 15, 13},
		{"-8+7-6+5-4+3-2+1", 6, 3, 1},
		{"-8+7-6+5-4+3-2+1", 7, 2, 0},
		{"+1+2+3+4+5+6+7-8", 6, 14, 16},
		{"+1+2+3+4+5+6+7-8", 7, 15, 0},
	} {
		left, right, ok := impl.OpenAt(parsedBinding(t, c.text), c.place)
		expect(t, call("OpenAt", c.text, c.place), got(left, right, ok), got(c.left, c.right, true))
	}
}

func TestBindingsByHand(t *testing.T) {
	for _, c := range []struct {
		text                       string
		pages                      []int
		turned, breaks, cuts, leaf int
		place                      int
		isTurned                   bool
	}{
		{"+1", []int{1, 2}, 0, 0, 0, 1, 0, false},
		// No leaf comes behind the first one if it is turned.
		{"-1", []int{2, 1}, 1, 2, 1, 1, 0, true},
		{"+1+2", []int{1, 2, 3, 4}, 0, 0, 0, 2, 1, false},
		{"+2+1", []int{3, 4, 1, 2}, 0, 3, 1, 2, 0, false},
		{"-1-2", []int{2, 1, 4, 3}, 2, 3, 2, 2, 1, true},
		{"-2-1", []int{4, 3, 2, 1}, 2, 2, 2, 1, 1, true},
		{"+1-2", []int{1, 2, 4, 3}, 1, 2, 1, 2, 1, true},
		{"-1+2", []int{2, 1, 3, 4}, 1, 2, 1, 1, 0, true},
		{"+2-1", []int{3, 4, 2, 1}, 1, 3, 1, 1, 1, true},
		{"+1-3+2", []int{1, 2, 6, 5, 3, 4}, 1, 3, 1, 3, 1, true},
		{"+1+2+3+4+5+6+7+8", []int{1, 2, 3, 4, 5, 6, 7, 8, 9, 10, 11, 12, 13, 14, 15, 16}, 0, 0, 0, 8, 7, false},
		{"-8-7-6-5-4-3-2-1", []int{16, 15, 14, 13, 12, 11, 10, 9, 8, 7, 6, 5, 4, 3, 2, 1}, 8, 2, 8, 8, 0, true},
		{"+8+7+6+5+4+3+2+1", []int{15, 16, 13, 14, 11, 12, 9, 10, 7, 8, 5, 6, 3, 4, 1, 2}, 0, 9, 7, 1, 7, false},
		{"-1-2-3-4-5-6-7-8", []int{2, 1, 4, 3, 6, 5, 8, 7, 10, 9, 12, 11, 14, 13, 16, 15}, 8, 9, 8, 4, 3, true},
		{"+2+3+4+5+6+7+8+1", []int{3, 4, 5, 6, 7, 8, 9, 10, 11, 12, 13, 14, 15, 16, 1, 2}, 0, 3, 1, 1, 7, false},
		// Leaves that rise stay, also if they do not follow each other.
		{"+1+8+2-7+3+6+4-5", []int{1, 2, 15, 16, 3, 4, 14, 13, 5, 6, 11, 12, 7, 8, 10, 9}, 2, 8, 4, 7, 3, true},
	} {
		binding := parsedBinding(t, c.text)
		pages, ok := impl.PagesRead(binding)
		expect(t, call("PagesRead", c.text), got(pages, ok), got(c.pages, true))
		n, ok := impl.CountTurned(binding)
		expect(t, call("CountTurned", c.text), got(n, ok), got(c.turned, true))
		n, ok = impl.BreaksOf(binding)
		expect(t, call("BreaksOf", c.text), got(n, ok), got(c.breaks, true))
		n, ok = impl.FewestCuts(binding)
		expect(t, call("FewestCuts", c.text), got(n, ok), got(c.cuts, true))
		place, turned, ok := impl.PlaceOfLeaf(binding, c.leaf)
		expect(t, call("PlaceOfLeaf", c.text, c.leaf), got(place, turned, ok), got(c.place, c.isTurned, true))
	}
}

func TestBindingTexts(t *testing.T) {
	for _, binding := range append(fewLeaves(5), manyLeaves()...) {
		text, ok := impl.BindingText(binding)
		expect(t, call("BindingText", binding), got(text, ok), got(plainBindingText(binding), true))
		parsed, ok := impl.ParseBinding(text)
		expect(t, call("ParseBinding", text), got(parsed, ok), got(binding, true))
	}
}

// TestParseAllTexts looks at all short texts of these signs: those of three leaves and fewer are there.
func TestParseAllTexts(t *testing.T) {
	texts := map[string][]int{}
	for _, binding := range fewLeaves(3) {
		texts[plainBindingText(binding)] = binding
	}
	for long := 0; long <= 6; long++ {
		for _, text := range allTexts(long, "+", "-", "0", "1", "2", "3") {
			want, is := texts[text]
			if binding, ok := impl.ParseBinding(text); ok != is || !slices.Equal(binding, want) {
				t.Errorf("ParseBinding(%q) is %v, %v", text, binding, ok)
			}
		}
	}
}

func TestBindingsAreNew(t *testing.T) {
	room := []int{1, -3, -2, 99, 98}
	turnRoom := []int{1, 2, 97}
	binding, turns := room[:3], [][]int{turnRoom[:2], {0, 0}, {9}}[:2]
	rooms := [][]int{room, turnRoom}
	for name, list := range map[string]func() []int{
		"PagesRead":               func() []int { l, _ := impl.PagesRead(binding); return l },
		"TurnPart":                func() []int { l, _ := impl.TurnPart(binding, 0, 1); return l },
		"TurnParts":               func() []int { l, _ := impl.TurnParts(binding, turns); return l },
		"TurnParts of no turns":   func() []int { l, _ := impl.TurnParts(binding, nil); return l },
		"CutPart":                 func() []int { l, _ := impl.CutPart(binding, 0, 1, 1); return l },
		"CutPart to the front":    func() []int { l, _ := impl.CutPart(binding, 1, 2, 0); return l },
		"CutPart where it was":    func() []int { l, _ := impl.CutPart(binding, 1, 1, 1); return l },
		"CutPart of all":          func() []int { l, _ := impl.CutPart(binding, 0, 2, 0); return l },
		"FarthestBinding":         func() []int { l, _, _ := impl.FarthestBinding(3); return l },
		"BindingOfRank":           func() []int { l, _ := impl.BindingOfRank(8, 1000); return l },
		"ParseBinding":            func() []int { l, _ := impl.ParseBinding("+1-3-2"); return l },
		"FirstTurns of a binding": func() []int { l, _ := impl.FirstTurns(binding); return l[0] },
	} {
		wantOwnMemory(t, name, list, rooms, -1)
	}
	wantOwnMemory(t, "FirstTurns", func() [][]int { l, _ := impl.FirstTurns(binding); return l }, rooms, []int{7})
	impl.IsBinding(binding)
	impl.CountTurned(binding)
	impl.PlaceOfLeaf(binding, 2)
	impl.BreaksOf(binding)
	impl.FewestTurns(binding)
	impl.FewestCuts(binding)
	impl.RankOfBinding(binding)
	impl.OpenAt(binding, 1)
	impl.BindingText(binding)
	expect(t, "the rooms", got(rooms, turns[:3]), got([][]int{{1, -3, -2, 99, 98}, {1, 2, 97}}, [][]int{{1, 2}, {0, 0}, {9}}))
}

// TestTurnsShareNoMemory takes a binding whose list of turns has one of them twice.
func TestTurnsShareNoMemory(t *testing.T) {
	turns, ok := impl.FirstTurns([]int{2, 1})
	expect(t, "FirstTurns", got(turns, ok), got([][]int{{0, 0}, {0, 1}, {0, 0}}, true))
	for k := range turns {
		_ = append(turns[k], 5, 6)
		turns[k][0] = 7 + k
	}
	expect(t, "changed turns", turns, [][]int{{7, 0}, {8, 1}, {9, 0}})
}
