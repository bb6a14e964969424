package tests

import (
	"math"
	"slices"
	"testing"

	"loop.example/g01394/impl"
)

// noHidden has books with too few pages or too many, and leaves that they do not have, or with one number only.
func noHidden() []impl.Hidden {
	none := []impl.Hidden{{}, {Pages: 0, Leaf: 1}, {Pages: 1, Leaf: 1}, {Pages: 1, Leaf: 0}, {Pages: 2, Leaf: 0}, {Pages: 2, Leaf: 2}, {Pages: 3, Leaf: 2}, {Pages: 39, Leaf: 20}, {Pages: 40, Leaf: 21}, {Pages: 41, Leaf: 1}, {Pages: 41, Leaf: 20}, {Pages: 42, Leaf: 21}, {Pages: 3, Leaf: 10}, {Pages: -2, Leaf: -1}}
	for pages := 2; pages <= impl.MaxHidden; pages++ {
		for _, leaf := range outside(1, pages/2) {
			none = append(none, impl.Hidden{Pages: pages, Leaf: leaf})
		}
	}
	for _, pages := range outside(2, impl.MaxHidden) {
		none = append(none, impl.Hidden{Pages: pages, Leaf: 1}, impl.Hidden{Pages: pages, Leaf: pages / 2}, impl.Hidden{Pages: pages, Leaf: pages})
	}
	return none
}

// noClues has clues of no kind, and of each kind one with an A or a B that is none, the others being at their limits.
func noClues() []impl.Clue {
	var none []impl.Clue
	for _, kind := range outside(0, 5) {
		for _, a := range []int{0, 1, 2, 9} {
			none = append(none, impl.Clue{Kind: kind, A: a}, impl.Clue{Kind: kind, A: a, B: 1})
		}
	}
	for _, kind := range allKinds() {
		for _, a := range outside(kind.leastA, kind.mostA) {
			none = append(none, impl.Clue{Kind: kind.kind, A: a}, impl.Clue{Kind: kind.kind, A: a, B: 1}, impl.Clue{Kind: kind.kind, A: a, B: kind.mostB})
		}
		for _, b := range outside(0, kind.mostB) {
			none = append(none, impl.Clue{Kind: kind.kind, A: kind.leastA, B: b}, impl.Clue{Kind: kind.kind, A: kind.mostA, B: b})
		}
	}
	return none
}

// noPuzzles has clues that are none at all places between good ones, and too many clues.
func noPuzzles() []impl.Puzzle {
	var none []impl.Puzzle
	// The first good one fits no book, so that nothing that comes behind it matters to the solutions.
	good := []impl.Clue{{Kind: 0, B: 1000}, {Kind: 0, B: 44}, {Kind: 5, B: 11}, {Kind: 3, A: 1, B: 1}, {Kind: 3, A: 40}, {Kind: 4, A: 5, B: 1}}
	for k, clue := range noClues() {
		none = append(none, impl.Puzzle{Clues: []impl.Clue{clue}}, impl.Puzzle{Clues: []impl.Clue{clue, good[1]}}, impl.Puzzle{Clues: []impl.Clue{good[1], clue}})
		clues := slices.Clone(good)
		clues[k%len(clues)] = clue
		none = append(none, impl.Puzzle{Clues: clues})
		clues = slices.Clone(good)
		clues[len(clues)-1] = clue
		none = append(none, impl.Puzzle{Clues: clues}, impl.Puzzle{Clues: append(slices.Clone(good), clue)})
	}
	for _, many := range []int{7, 8, 12, 400, 100000} {
		none = append(none, impl.Puzzle{Clues: slices.Repeat([]impl.Clue{{Kind: 0, B: 44}}, many)}, impl.Puzzle{Clues: slices.Repeat([]impl.Clue{{Kind: 3, A: 1, B: 1}}, many)}, impl.Puzzle{Clues: make([]impl.Clue, many)})
	}
	return none
}

func ofPuzzles() map[string]any {
	return map[string]any{
		"Solutions": impl.Solutions, "CountSolutions": impl.CountSolutions, "FirstSolution": impl.FirstSolution, "SureHidden": impl.SureHidden, "IsSolved": impl.IsSolved,
		"NeedlessClues": impl.NeedlessClues, "LeftByClues": impl.LeftByClues, "BestClue": impl.BestClue, "HarderPuzzle": impl.HarderPuzzle, "PuzzleText": impl.PuzzleText,
	}
}

func TestNoPuzzles(t *testing.T) {
	for _, none := range noPuzzles() {
		for name, function := range ofPuzzles() {
			wantZero(t, name, function, none)
		}
		for _, k := range []int{0, 1, 5, 6, len(none.Clues) - 1, len(none.Clues)} {
			wantZero(t, "DropClue", impl.DropClue, none, k)
		}
		wantZero(t, "AddClue", impl.AddClue, none, impl.Clue{Kind: 0, B: 44})
	}
}

func TestNoClues(t *testing.T) {
	puzzles := []impl.Puzzle{{}, {Clues: []impl.Clue{{Kind: 0, B: 44}}}, {Clues: []impl.Clue{{Kind: 0, B: 1000}, {Kind: 5, B: 11}}}, {Clues: make([]impl.Clue, 5)}, {Clues: make([]impl.Clue, 6)}}
	for _, clue := range noClues() {
		for _, h := range []impl.Hidden{{}, {Pages: 2, Leaf: 1}, {Pages: 10, Leaf: 3}, {Pages: 40, Leaf: 20}} {
			wantZero(t, "DoesFit", impl.DoesFit, clue, h)
		}
		for _, p := range puzzles {
			wantZero(t, "AddClue", impl.AddClue, p, clue)
		}
	}
}

func TestNoHiddenBooks(t *testing.T) {
	for _, h := range noHidden() {
		for _, kind := range allKinds() {
			for _, a := range []int{kind.leastA, kind.mostA} {
				for _, b := range []int{0, 1, kind.mostB} {
					wantZero(t, "DoesFit", impl.DoesFit, impl.Clue{Kind: kind.kind, A: a, B: b}, h)
				}
			}
		}
		for clues := 0; clues <= impl.MaxClues; clues++ {
			for _, seed := range []int{0, 1, 9999} {
				wantZero(t, "MakePuzzle", impl.MakePuzzle, h, clues, seed)
			}
		}
	}
}

// TestInvalidIndicesOfClues takes puzzles with more clues in the room behind them.
func TestInvalidIndicesOfClues(t *testing.T) {
	room := []impl.Clue{{Kind: 0, B: 44}, {Kind: 5, B: 11}, {Kind: 1, B: 9}, {Kind: 3, A: 1, B: 1}, {Kind: 4, A: 2}, {Kind: 2, A: 9}, {Kind: 0}}
	for many := 0; many <= impl.MaxClues; many++ {
		for _, k := range outside(0, many-1) {
			wantZero(t, "DropClue", impl.DropClue, impl.Puzzle{Clues: room[:many]}, k)
		}
	}
	for _, k := range []int{-1, 0, 1, math.MinInt, math.MaxInt} {
		wantZero(t, "DropClue", impl.DropClue, impl.Puzzle{}, k)
	}
}

func TestInvalidMadePuzzles(t *testing.T) {
	for _, h := range []impl.Hidden{{Pages: 2, Leaf: 1}, {Pages: 10, Leaf: 3}, {Pages: 40, Leaf: 20}} {
		for _, clues := range outside(0, impl.MaxClues) {
			for _, seed := range []int{0, 1, 5000, 9999} {
				wantZero(t, "MakePuzzle", impl.MakePuzzle, h, clues, seed)
			}
		}
		for clues := 0; clues <= impl.MaxClues; clues++ {
			for _, seed := range append(outside(0, 9999), 10006, 10007, 10008) {
				wantZero(t, "MakePuzzle", impl.MakePuzzle, h, clues, seed)
			}
		}
	}
}

func TestAnyPuzzles(t *testing.T) {
	numbers := anyNumbers()
	good := impl.Puzzle{Clues: []impl.Clue{{Kind: 5, B: 11}, {Kind: 4, A: 9, B: 1}}}
	for _, a := range numbers {
		checkZero(t, "DropClue", impl.DropClue, good, a)
		for _, b := range numbers {
			h := impl.Hidden{Pages: a, Leaf: b}
			checkZero(t, "DoesFit", impl.DoesFit, good.Clues[0], h)
			checkZero(t, "MakePuzzle", impl.MakePuzzle, h, 6, 77)
			checkZero(t, "MakePuzzle", impl.MakePuzzle, impl.Hidden{Pages: 10, Leaf: 3}, a, b)
			for kind := -1; kind <= 6; kind++ {
				clue := impl.Clue{Kind: kind, A: a, B: b}
				checkZero(t, "DoesFit", impl.DoesFit, clue, impl.Hidden{Pages: 40, Leaf: 20})
				checkZero(t, "AddClue", impl.AddClue, good, clue)
			}
			for name, function := range ofPuzzles() {
				checkZero(t, name, function, impl.Puzzle{Clues: []impl.Clue{{Kind: a, A: b}, {Kind: 3, A: a, B: b}}})
			}
		}
	}
}
