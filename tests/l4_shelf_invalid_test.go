package tests

import (
	"math"
	"slices"
	"strings"
	"testing"

	"loop.example/g01394/impl"
)

// noShelves has shelves with one number out of its bounds, and the others at theirs.
func noShelves() []impl.Shelf {
	none := []impl.Shelf{
		{}, shelf(2), {Thick: []int{}, Cover: 10}, shelf(0, 1, 1, 1, 1, 1, 1, 1, 1, 1), shelf(2, 30, 20, 40, 30, 20, 40, 30, 20, 40),
		{Thick: make([]int, 1000)}, {Thick: slices.Repeat([]int{1}, 1000), Cover: 1}, shelf(math.MaxInt, math.MaxInt), shelf(math.MinInt, math.MinInt),
	}
	for _, n := range append(outside(1, impl.MaxThick), 0) {
		none = append(none, shelf(0, n), shelf(10, n, 100), shelf(2, 30, n, 40), shelf(2, 30, 20, 40, 30, 20, 40, 30, n))
	}
	for _, n := range outside(0, impl.MaxCover) {
		none = append(none, shelf(n, 1), shelf(n, 30, 20, 40), shelf(n, 100, 100, 100, 100, 100, 100, 100, 100))
	}
	return none
}

// noStandings has lists in which a number is out of its bounds, or there twice, or of which there are too many or too few.
func noStandings() [][]int {
	none := [][]int{nil, {}, {0, 1, 2, 3, 4, 5, 6, 7, 8}, make([]int, 1000), inOrder(1000), {0, 0}, {1, 1}, {0, 1, 0}, {2, 1, 2}, {0, 1, 2, 3, 4, 5, 6, 6}, {7, 7, 0, 1, 2, 3, 4, 5}, {0, 2}, {1, 2}, {1, 2, 3}, {1}}
	for _, n := range outside(0, 2) {
		none = append(none, []int{n, 1, 2}, []int{0, n, 2}, []int{0, 1, n})
	}
	for _, n := range outside(0, 0) {
		none = append(none, []int{n})
	}
	for _, n := range outside(0, 7) {
		none = append(none, []int{0, 1, 2, 3, 4, 5, 6, n}, []int{n, 1, 2, 3, 4, 5, 6, 7})
	}
	return none
}

// failsForVolume calls all functions of a volume of a shelf, and expects that they fail.
func failsForVolume(t *testing.T, s impl.Shelf, volume int) {
	t.Helper()
	wantZero(t, "PlaceOfVolume", impl.PlaceOfVolume, s, volume)
	for _, last := range []bool{false, true} {
		wantZero(t, "FaceOf", impl.FaceOf, s, volume, last)
		for name, function := range worms() {
			for _, lastB := range []bool{false, true} {
				wantZero(t, name, function, s, volume, last, 0, lastB)
				wantZero(t, name, function, s, 0, last, volume, lastB)
				wantZero(t, name, function, s, volume, last, volume, lastB)
			}
		}
	}
	wantZero(t, "SwapVolumes", impl.SwapVolumes, s, volume, 0)
	wantZero(t, "SwapVolumes", impl.SwapVolumes, s, 0, volume)
	wantZero(t, "SwapVolumes", impl.SwapVolumes, s, volume, volume)
}

func worms() map[string]any {
	return map[string]any{"WormEats": impl.WormEats, "CoversEaten": impl.CoversEaten, "PagesEaten": impl.PagesEaten}
}

func TestNoShelves(t *testing.T) {
	for _, s := range noShelves() {
		wantZero(t, "WidthOf", impl.WidthOf, s)
		wantZero(t, "LongestWorm", impl.LongestWorm, s)
		wantZero(t, "ShelfText", impl.ShelfText, s)
		for _, volume := range []int{-1, 0, 1, 7} {
			failsForVolume(t, s, volume)
		}
		for _, wide := range []int{1, 60, 102, impl.MaxShelf} {
			wantZero(t, "ShelvesFor", impl.ShelvesFor, s, wide)
			wantZero(t, "ShelfOf", impl.ShelfOf, s, wide)
		}
		for shelves := 1; shelves <= impl.MaxStanding; shelves++ {
			wantZero(t, "LeastShelf", impl.LeastShelf, s, shelves)
		}
	}
}

func TestInvalidVolumes(t *testing.T) {
	for many := 1; many <= impl.MaxStanding; many++ {
		for _, cover := range []int{0, 2, impl.MaxCover} {
			// The room behind the volumes has numbers that could be some.
			s := impl.Shelf{Thick: slices.Repeat([]int{30}, impl.MaxStanding+1)[:many], Cover: cover}
			for _, volume := range outside(0, many-1) {
				failsForVolume(t, s, volume)
			}
		}
	}
}

func TestInvalidWidths(t *testing.T) {
	for _, s := range []impl.Shelf{shelf(0, 1), shelf(2, 30, 20, 40), shelf(10, 100, 100, 100, 100, 100, 100, 100, 100)} {
		for _, wide := range append(outside(1, impl.MaxShelf), 0) {
			wantZero(t, "ShelvesFor", impl.ShelvesFor, s, wide)
			wantZero(t, "ShelfOf", impl.ShelfOf, s, wide)
		}
		for _, shelves := range append(outside(1, impl.MaxStanding), 0) {
			wantZero(t, "LeastShelf", impl.LeastShelf, s, shelves)
		}
	}
}

func TestNoStandings(t *testing.T) {
	for _, order := range noStandings() {
		wantZero(t, "FewestMoves", impl.FewestMoves, order)
		wantZero(t, "FirstStay", impl.FirstStay, order)
		wantZero(t, "FewestSwaps", impl.FewestSwaps, order)
		wantZero(t, "FewestNeighbours", impl.FewestNeighbours, order)
		for from := range 3 {
			for to := range 3 {
				wantZero(t, "MoveVolume", impl.MoveVolume, order, from, to)
			}
		}
	}
}

func TestInvalidPlaces(t *testing.T) {
	for many := 1; many <= impl.MaxStanding; many++ {
		// The room behind the standing has the volumes of a longer one.
		order := inOrder(impl.MaxStanding + 1)[:many]
		for _, place := range outside(0, many-1) {
			for other := range many {
				wantZero(t, "MoveVolume", impl.MoveVolume, order, place, other)
				wantZero(t, "MoveVolume", impl.MoveVolume, order, other, place)
			}
			wantZero(t, "MoveVolume", impl.MoveVolume, order, place, place)
		}
	}
}

func TestTextsOfNoShelves(t *testing.T) {
	texts := []string{
		"", "c", ",", ",c", "c2", ",c2", "30", "30c", "30,20,40", "30,20,40c", "30,c2", ",30c2", "30,,40c2", "30,20,40c2c2", "30c2c", "c30c2", "30cc2", "30,20,40,c2", "30,20,40c2,", "30c2,20", "2c30,20,40",
		"030,20,40c2", "30,020,40c2", "30,20,40c02", "30,20,40c00", "0c2", "30,0,40c2", "00c0", "101c2", "30,101c2", "30c11", "30c100", "-30c2", "30,-20c2", "30c-2", "30c-0", "-0c2",
		"+30c2", "30,+20c2", "30c+2", " 30c2", "30 c2", "30c 2", "30c2 ", "30, 20c2", "30 ,20c2", "30c2\n", "\n30c2", "30c2\x00", "30C2", "30;20c2", "30.20c2", "30+20c2", "x,20c2", "30,xc2", "30cx", "3_0c2", "0x1ec2", "3e1c2", "30.0c2",
		"1,1,1,1,1,1,1,1,1c0", "100,100,100,100,100,100,100,100c100", "100,100,100,100,100,100,100,100,100c10", "100,100,100,100,100,100,100,100c10 ", "30c9223372036854775810", "18446744073709551646c2", "30c18446744073709551618", "٣٠c2", "３０c2", "\xff", "30c2\xff",
		strings.Repeat("0", 100000) + "30c2", "30c2" + strings.Repeat(" ", 100000), strings.Repeat("1,", 100000) + "1c2", strings.Repeat("c", 100000), strings.Repeat("9", 100000),
	}
	for _, text := range texts {
		wantZero(t, "ParseShelf", impl.ParseShelf, text)
	}
}

func TestAnyShelves(t *testing.T) {
	for _, a := range anyNumbers() {
		for _, b := range anyNumbers() {
			s := shelf(a, b, 20, 40)
			checkZero(t, "WidthOf", impl.WidthOf, s)
			checkZero(t, "LongestWorm", impl.LongestWorm, s)
			checkZero(t, "ShelfText", impl.ShelfText, s)
			checkZero(t, "ShelfOf", impl.ShelfOf, s, a)
			checkZero(t, "ShelvesFor", impl.ShelvesFor, s, b)
			checkZero(t, "LeastShelf", impl.LeastShelf, s, a)
			checkZero(t, "PlaceOfVolume", impl.PlaceOfVolume, s, b)
			good := shelf(2, 30, 20, 40)
			checkZero(t, "SwapVolumes", impl.SwapVolumes, good, a, b)
			checkZero(t, "FaceOf", impl.FaceOf, good, a, true)
			for name, function := range worms() {
				checkZero(t, name, function, good, a, false, b, true)
				checkZero(t, name, function, s, 0, true, a, false)
			}
			checkZero(t, "MoveVolume", impl.MoveVolume, []int{2, 0, 1}, a, b)
			for name, function := range map[string]any{"FewestMoves": impl.FewestMoves, "FirstStay": impl.FirstStay, "FewestSwaps": impl.FewestSwaps, "FewestNeighbours": impl.FewestNeighbours} {
				checkZero(t, name, function, []int{a, b})
				checkZero(t, name, function, []int{0, a, b})
			}
		}
	}
}
