package tests

import (
	"slices"
	"testing"

	"loop.example/g01394/impl"
)

// plainMadePuzzle lists all numbers first, of which each clue takes two.
func plainMadePuzzle(h impl.Hidden, clues, seed int) []impl.Clue {
	numbers := []int{seed}
	for range 2 * clues {
		numbers = append(numbers, (numbers[len(numbers)-1]*311+503)%10007)
	}
	made := []impl.Clue{}
	for k := range clues {
		kind, y := numbers[2*k+1]%6, numbers[2*k+2]
		a := []int{0, 0, y % 10, y%20 + 1, y%8 + 2, 0}[kind]
		made = append(made, impl.Clue{Kind: kind, A: a, B: plainTold(kind, a, h)})
	}
	return made
}

func wantMadePuzzle(t *testing.T, h impl.Hidden, clues, seed int) {
	t.Helper()
	p, ok := impl.MakePuzzle(h, clues, seed)
	if want := plainMadePuzzle(h, clues, seed); !slices.Equal(p.Clues, want) || !ok {
		t.Errorf("MakePuzzle(%v, %d, %d) is %v, %v, not %v", h, clues, seed, p, ok, want)
	}
	if solutions, ok := impl.Solutions(p); !slices.Contains(solutions, h) || !ok {
		t.Errorf("%v does not fit MakePuzzle(%v, %d, %d)", h, h, clues, seed)
	}
}

func TestMakePuzzleFromAllSeeds(t *testing.T) {
	for seed := 0; seed <= 9999; seed++ {
		wantMadePuzzle(t, impl.Hidden{Pages: 31, Leaf: 9}, impl.MaxClues, seed)
	}
}

func TestMakePuzzleForAllBooks(t *testing.T) {
	for k, h := range allHiddenBooks() {
		for clues := 0; clues <= impl.MaxClues; clues++ {
			for _, seed := range []int{0, 1, 24*k + clues, 9998, 9999} {
				wantMadePuzzle(t, h, clues, seed)
			}
		}
	}
}

// TestMakePuzzleByHand has numbers that were worked out apart: behind 0 come 503, 6831, 3460, 5814, 7397, 9367, 1603, 8693, 2136, 4337, 8372 and 2375, behind 9999 come 8022, 3602, 9948, 2168, 4282, 1274, 6444, 3187, 967, 1030, 609 and 9776.
func TestMakePuzzleByHand(t *testing.T) {
	for _, c := range []struct {
		pages, leaf, clues, seed int
		want                     string
	}{
		{10, 3, 0, 0, ""},
		{10, 3, 0, 9999, ""},
		{10, 3, 1, 0, "5.0.11"},
		{10, 3, 2, 0, "5.0.11,4.8.0"},
		{10, 3, 6, 0, "5.0.11,4.8.0,5.0.11,1.0.9,0.0.44,2.5.0"},
		{40, 20, 6, 0, "5.0.79,4.8.1,5.0.79,1.0.67,0.0.741,2.5.4"},
		{25, 4, 6, 0, "5.0.15,4.8.0,5.0.15,1.0.39,0.0.310,2.5.3"},
		{10, 3, 6, 9999, "0.0.44,0.0.44,4.4.0,0.0.44,1.0.9,3.17.0"},
		{2, 1, 6, 9999, "0.0.0,0.0.0,4.4.0,0.0.0,1.0.0,3.17.0"},
		{40, 20, 6, 9999, "0.0.741,0.0.741,4.4.1,0.0.741,1.0.67,3.17.1"},
	} {
		p, ok := impl.MakePuzzle(impl.Hidden{Pages: c.pages, Leaf: c.leaf}, c.clues, c.seed)
		expect(t, call("MakePuzzle", c.pages, c.leaf, c.clues, c.seed), got(plainPuzzleText(p), ok), got(c.want, true))
	}
}
