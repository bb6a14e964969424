package tests

import (
	"slices"
	"testing"

	"loop.example/g01394/impl"
)

// standing is a list of volumes with room for the longest one, so that standings can be keys.
type standing [impl.MaxStanding]int

func standingOf(order []int) standing {
	var s standing
	copy(s[:], order)
	return s
}

func inOrder(many int) []int {
	var order []int
	for volume := range many {
		order = append(order, volume)
	}
	return order
}

// allStandings returns all standings of so many volumes.
func allStandings(many int) [][]int {
	if many == 0 {
		return [][]int{{}}
	}
	var all [][]int
	for _, order := range allStandings(many - 1) {
		for place := range many {
			all = append(all, slices.Insert(slices.Clone(order), place, many-1))
		}
	}
	return all
}

// farFrom returns for each list how many steps lead to it from the first one. It requires that each step can be taken back.
func farFrom(first []int, steps func(order []int) [][]int) map[standing]int {
	far := map[standing]int{standingOf(first): 0}
	for next := [][]int{first}; len(next) > 0; {
		order := next[0]
		next = next[1:]
		for _, stepped := range steps(order) {
			if _, known := far[standingOf(stepped)]; !known {
				far[standingOf(stepped)] = far[standingOf(order)] + 1
				next = append(next, stepped)
			}
		}
	}
	return far
}

// plainMoved puts the volume ahead of each of the others in turn, or behind all, until it has its place.
func plainMoved(order []int, from, to int) []int {
	var others []int
	for place, volume := range order {
		if place != from {
			others = append(others, volume)
		}
	}
	var moved []int
	for place := range order {
		if place == to {
			moved = append(moved, order[from])
			continue
		}
		moved = append(moved, others[0])
		others = others[1:]
	}
	return moved
}

func movesOf(order []int) [][]int {
	var all [][]int
	for from := range order {
		for to := range order {
			if from != to {
				all = append(all, plainMoved(order, from, to))
			}
		}
	}
	return all
}

// swapsOf exchanges all two volumes that are at most so far from each other.
func swapsOf(most int) func(order []int) [][]int {
	return func(order []int) [][]int {
		var all [][]int
		for a := range order {
			for b := a + 1; b < len(order) && b <= a+most; b++ {
				swapped := slices.Clone(order)
				swapped[a], swapped[b] = order[b], order[a]
				all = append(all, swapped)
			}
		}
		return all
	}
}

// plainStay tries all lists of places.
func plainStay(order []int) []int {
	var best []int
	for chosen := range 1 << len(order) {
		var places []int
		before, rises := -1, true
		for place, volume := range order {
			if chosen>>place&1 == 1 {
				rises = rises && volume > before
				before = volume
				places = append(places, place)
			}
		}
		longer := len(places) > len(best)
		if rises && (longer || len(places) == len(best) && slices.Compare(places, best) < 0) {
			best = places
		}
	}
	return best
}

// wantMended compares a function with the number of steps to all standings.
func wantMended(t *testing.T, name string, function func([]int) (int, bool), steps func([]int) [][]int) {
	t.Helper()
	for many := 1; many <= impl.MaxStanding; many++ {
		far := farFrom(inOrder(many), steps)
		for _, order := range allStandings(many) {
			n, ok := function(order)
			if want := far[standingOf(order)]; n != want || !ok {
				t.Errorf("%s(%v) is %d, %v, not %d", name, order, n, ok, want)
			}
		}
	}
}

func TestStandingExample(t *testing.T) {
	order := []int{2, 0, 1}
	n, ok := impl.FewestMoves(order)
	expect(t, "FewestMoves", got(n, ok), got(1, true))
	stay, ok := impl.FirstStay(order)
	expect(t, "FirstStay", got(stay, ok), got([]int{1, 2}, true))
	n, ok = impl.FewestSwaps(order)
	expect(t, "FewestSwaps", got(n, ok), got(2, true))
	n, ok = impl.FewestNeighbours(order)
	expect(t, "FewestNeighbours", got(n, ok), got(2, true))
}

func TestIsStanding(t *testing.T) {
	for many := 1; many <= impl.MaxStanding; many++ {
		for _, order := range allStandings(many) {
			if !impl.IsStanding(order) {
				t.Errorf("%v is none", order)
			}
		}
	}
	for many := 1; many <= 5; many++ {
		// One less and one more than volumes can be are in these lists, too.
		for _, list := range allLists(many, -1, many) {
			sorted := slices.Sorted(slices.Values(list))
			expect(t, call("IsStanding", list), impl.IsStanding(list), slices.Equal(sorted, inOrder(many)))
		}
	}
	for _, order := range noStandings() {
		expect(t, call("IsStanding", len(order)), impl.IsStanding(order), false)
	}
}

func TestFewestMoves(t *testing.T) {
	wantMended(t, "FewestMoves", impl.FewestMoves, movesOf)
}

func TestFewestSwaps(t *testing.T) {
	wantMended(t, "FewestSwaps", impl.FewestSwaps, swapsOf(impl.MaxStanding))
}

func TestFewestNeighbours(t *testing.T) {
	wantMended(t, "FewestNeighbours", impl.FewestNeighbours, swapsOf(1))
}

func TestFirstStay(t *testing.T) {
	for many := 1; many <= impl.MaxStanding; many++ {
		for _, order := range allStandings(many) {
			stay, ok := impl.FirstStay(order)
			if want := plainStay(order); !slices.Equal(stay, want) || !ok {
				t.Errorf("FirstStay(%v) is %v, %v, not %v", order, stay, ok, want)
			}
		}
	}
}

func TestStandingsByHand(t *testing.T) {
	for _, c := range []struct {
		order                    []int
		moves, swaps, neighbours int
		stay                     []int
	}{
		{[]int{0}, 0, 0, 0, []int{0}},
		{[]int{0, 1}, 0, 0, 0, []int{0, 1}},
		{[]int{1, 0}, 1, 1, 1, []int{0}},
		{[]int{0, 1, 2, 3, 4, 5, 6, 7}, 0, 0, 0, []int{0, 1, 2, 3, 4, 5, 6, 7}},
		{[]int{7, 6, 5, 4, 3, 2, 1, 0}, 7, 4, 28, []int{0}},
		{[]int{1, 2, 3, 4, 5, 6, 7, 0}, 1, 7, 7, []int{0, 1, 2, 3, 4, 5, 6}},
		{[]int{7, 0, 1, 2, 3, 4, 5, 6}, 1, 7, 7, []int{1, 2, 3, 4, 5, 6, 7}},
		{[]int{1, 0, 3, 2, 5, 4, 7, 6}, 4, 4, 4, []int{0, 2, 4, 6}},
		// Of several lists as long, the first one has lesser places, not lesser volumes.
		{[]int{2, 3, 0, 1}, 2, 2, 4, []int{0, 1}},
		{[]int{1, 3, 0, 2}, 2, 3, 3, []int{0, 1}},
		{[]int{0, 3, 1, 2}, 1, 2, 2, []int{0, 2, 3}},
	} {
		n, ok := impl.FewestMoves(c.order)
		expect(t, call("FewestMoves", c.order), got(n, ok), got(c.moves, true))
		n, ok = impl.FewestSwaps(c.order)
		expect(t, call("FewestSwaps", c.order), got(n, ok), got(c.swaps, true))
		n, ok = impl.FewestNeighbours(c.order)
		expect(t, call("FewestNeighbours", c.order), got(n, ok), got(c.neighbours, true))
		stay, ok := impl.FirstStay(c.order)
		expect(t, call("FirstStay", c.order), got(stay, ok), got(c.stay, true))
	}
}

// TestVolumesThatMayStayRise holds promise 4 against the calls themselves: the others are moved one by one, and then all are in order.
func TestVolumesThatMayStayRise(t *testing.T) {
	for _, order := range allStandings(6) {
		stay, _ := impl.FirstStay(order)
		stays := map[int]bool{}
		before := -1
		for _, place := range stay {
			if order[place] <= before {
				t.Errorf("of %v the places %v do not rise", order, stay)
			}
			before = order[place]
			stays[before] = true
		}
		mended := order
		moves := 0
		for volume := range order {
			if !stays[volume] {
				mended, _ = impl.MoveVolume(mended, slices.Index(mended, volume), placeAmong(mended, stays, volume))
				stays[volume] = true
				moves++
			}
		}
		expect(t, call("the mended standing of", order), got(mended), got(inOrder(len(order))))
		fewest, _ := impl.FewestMoves(order)
		expect(t, call("the moves of", order), moves, fewest)
	}
}

// placeAmong returns where a volume stands when it is put in directly behind the greatest lesser one of those that stay, or in front of all.
func placeAmong(order []int, stays map[int]bool, volume int) int {
	others := slices.DeleteFunc(slices.Clone(order), func(other int) bool { return other == volume })
	place := 0
	for k, other := range others {
		if stays[other] && other < volume {
			place = k + 1
		}
	}
	return place
}

func TestMoveVolume(t *testing.T) {
	for many := 1; many <= 6; many++ {
		for _, order := range allStandings(many) {
			for from := range many {
				for to := range many {
					moved, ok := impl.MoveVolume(order, from, to)
					if want := plainMoved(order, from, to); !slices.Equal(moved, want) || !ok || moved[to] != order[from] {
						t.Errorf("MoveVolume(%v, %d, %d) is %v, %v, not %v", order, from, to, moved, ok, want)
					}
				}
			}
		}
	}
}

func TestMoveVolumeByHand(t *testing.T) {
	all := []int{7, 0, 6, 1, 5, 2, 4, 3}
	for _, c := range []struct {
		order    []int
		from, to int
		want     []int
	}{
		{[]int{0}, 0, 0, []int{0}},
		{[]int{2, 0, 1}, 0, 2, []int{0, 1, 2}},
		{[]int{2, 0, 1}, 2, 0, []int{1, 2, 0}},
		{[]int{2, 0, 1}, 0, 1, []int{0, 2, 1}},
		{[]int{2, 0, 1}, 1, 1, []int{2, 0, 1}},
		{all, 0, 7, []int{0, 6, 1, 5, 2, 4, 3, 7}},
		{all, 7, 0, []int{3, 7, 0, 6, 1, 5, 2, 4}},
		{all, 2, 5, []int{7, 0, 1, 5, 2, 6, 4, 3}},
		{all, 5, 2, []int{7, 0, 2, 6, 1, 5, 4, 3}},
		{all, 7, 7, all},
	} {
		moved, ok := impl.MoveVolume(c.order, c.from, c.to)
		expect(t, call("MoveVolume", c.order, c.from, c.to), got(moved, ok), got(c.want, true))
	}
}

func TestStandingsKeepTheirMemory(t *testing.T) {
	room := []int{2, 0, 1, 3, 99}
	order := room[:4]
	impl.IsStanding(order)
	impl.FewestMoves(order)
	impl.FewestSwaps(order)
	impl.FewestNeighbours(order)
	for name, list := range map[string]func() []int{
		"FirstStay":            func() []int { l, _ := impl.FirstStay(order); return l },
		"MoveVolume":           func() []int { l, _ := impl.MoveVolume(order, 0, 3); return l },
		"MoveVolume back":      func() []int { l, _ := impl.MoveVolume(order, 3, 0); return l },
		"MoveVolume of no way": func() []int { l, _ := impl.MoveVolume(order, 1, 1); return l },
	} {
		wantOwnMemory(t, name, list, room, -1)
	}
	expect(t, "the room of standings", got(room), got([]int{2, 0, 1, 3, 99}))
}
