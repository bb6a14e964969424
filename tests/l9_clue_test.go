package tests

import (
	"slices"
	"testing"

	"loop.example/g01394/impl"
)

func cluesOf(t *testing.T, text string) []impl.Clue {
	t.Helper()
	return notNil(parsedPuzzle(t, text).Clues)
}

func TestLeftByClues(t *testing.T) {
	for _, p := range somePuzzles() {
		want := []int{}
		for many := 0; many <= len(p.Clues); many++ {
			want = append(want, len(plainSolutions(p.Clues[:many]...)))
		}
		left, ok := impl.LeftByClues(p)
		expect(t, call("LeftByClues", p), got(left, ok), got(want, true))
	}
}

func TestLeftByCluesByHand(t *testing.T) {
	for text, want := range map[string][]int{
		"":                                    {400},
		"3.1.1":                               {400, 400},
		"0.0.1000":                            {400, 0},
		"0.0.1000,3.1.1":                      {400, 0, 0},
		"0.0.44,5.0.11":                       {400, 1, 1},
		"5.0.11,0.0.44":                       {400, 35, 1},
		"5.0.11,4.9.1":                        {400, 35, 4},
		"4.9.1,5.0.11":                        {400, 44, 4},
		"4.2.1,3.2.0,4.8.1,4.5.1,3.1.1,4.2.0": {400, 210, 20, 5, 1, 1, 0},
	} {
		left, ok := impl.LeftByClues(parsedPuzzle(t, text))
		expect(t, call("LeftByClues", text), got(left, ok), got(want, true))
	}
}

func TestNeedlessClues(t *testing.T) {
	for _, p := range somePuzzles() {
		want := []int{}
		for k := range p.Clues {
			if len(plainSolutions(plainWithout(p.Clues, k)...)) == len(plainSolutions(p.Clues...)) {
				want = append(want, k)
			}
		}
		needless, ok := impl.NeedlessClues(p)
		expect(t, call("NeedlessClues", p), got(notNil(needless), ok), got(want, true))
	}
}

func TestNeedlessCluesByHand(t *testing.T) {
	for text, want := range map[string][]int{
		"":              {},
		"0.0.44":        {},
		"3.1.1":         {0},
		"0.0.1000":      {},
		"5.0.11,4.9.1":  {},
		"5.0.11,1.0.9":  {},
		"0.0.44,5.0.11": {1},
		"5.0.11,0.0.44": {0},
		// Each one of two alike is needless, as the other one stays.
		"0.0.44,0.0.44":                         {0, 1},
		"0.0.44,5.0.11,0.0.44":                  {0, 1, 2},
		"5.0.11,5.0.11,1.0.9":                   {0, 1},
		"0.0.1000,5.0.0":                        {0, 1},
		"3.1.1,3.40.0,3.1.1,3.21.0,3.1.1":       {0, 1, 2, 3, 4},
		"3.1.1,3.40.0,3.1.1,0.0.44,3.1.1":       {0, 1, 2, 4},
		"3.1.1,3.1.1,3.1.1,3.1.1,3.1.1,3.1.1":   {0, 1, 2, 3, 4, 5},
		"4.2.1,3.2.0,4.8.1,4.5.1,3.1.1,4.2.1":   {0, 4, 5},
		"4.2.1,4.2.0,3.1.1":                     {2},
		"2.0.3,2.5.4,3.17.0,4.5.1,4.7.0,3.14.1": {},
		"5.0.79,0.0.741,3.20.1,4.8.1,4.5.1":     {0, 1, 2, 3, 4},
	} {
		needless, ok := impl.NeedlessClues(parsedPuzzle(t, text))
		expect(t, call("NeedlessClues", text), got(notNil(needless), ok), got(want, true))
	}
}

func TestDropClue(t *testing.T) {
	for _, p := range somePuzzles() {
		for k := range p.Clues {
			dropped, ok := impl.DropClue(p, k)
			expect(t, call("DropClue", p, k), got(notNil(dropped.Clues), ok), got(plainWithout(p.Clues, k), true))
		}
	}
}

func TestDropClueByHand(t *testing.T) {
	for _, c := range []struct {
		text string
		k    int
		want string
	}{
		{"0.0.44", 0, ""},
		{"0.0.44,5.0.11", 0, "5.0.11"},
		{"0.0.44,5.0.11", 1, "0.0.44"},
		{"0.0.0,1.0.1,2.2.2,3.3.1,4.4.1,5.0.5", 0, "1.0.1,2.2.2,3.3.1,4.4.1,5.0.5"},
		{"0.0.0,1.0.1,2.2.2,3.3.1,4.4.1,5.0.5", 3, "0.0.0,1.0.1,2.2.2,4.4.1,5.0.5"},
		{"0.0.0,1.0.1,2.2.2,3.3.1,4.4.1,5.0.5", 5, "0.0.0,1.0.1,2.2.2,3.3.1,4.4.1"},
		{"0.0.44,0.0.44,0.0.44", 1, "0.0.44,0.0.44"},
	} {
		dropped, ok := impl.DropClue(parsedPuzzle(t, c.text), c.k)
		expect(t, call("DropClue", c.text, c.k), got(notNil(dropped.Clues), ok), got(cluesOf(t, c.want), true))
	}
}

func TestAddClue(t *testing.T) {
	clues := cluesOf(t, "0.0.0,1.0.1000,2.9.2,3.40.1,4.9.0,5.0.5")
	var p impl.Puzzle
	for many, c := range clues {
		added, ok := impl.AddClue(p, c)
		expect(t, call("AddClue", p, c), got(added.Clues, ok), got(clues[:many+1], true))
		p = added
	}
	for _, c := range clues {
		wantZero(t, "AddClue", impl.AddClue, p, c)
	}
	for _, p := range somePuzzles() {
		c := clues[len(p.Clues)%len(clues)]
		added, ok := impl.AddClue(p, c)
		if len(p.Clues) == impl.MaxClues {
			expect(t, call("AddClue", p, c), got(notNil(added.Clues), ok), got([]impl.Clue{}, false))
			continue
		}
		expect(t, call("AddClue", p, c), got(added.Clues, ok), got(append(slices.Clone(p.Clues), c), true))
		dropped, ok := impl.DropClue(added, len(p.Clues))
		expect(t, call("DropClue of AddClue", p, c), got(notNil(dropped.Clues), ok), got(notNil(p.Clues), true))
	}
}

// TestAddClueTwice adds two clues to the same one, which has room for both.
func TestAddClueTwice(t *testing.T) {
	room := make([]impl.Clue, 1, 6)
	p := impl.Puzzle{Clues: room}
	a, _ := impl.AddClue(p, impl.Clue{Kind: 1, B: 7})
	b, _ := impl.AddClue(p, impl.Clue{Kind: 5, B: 3})
	expect(t, "both puzzles", got(a, b), got(impl.Puzzle{Clues: []impl.Clue{{}, {Kind: 1, B: 7}}}, impl.Puzzle{Clues: []impl.Clue{{}, {Kind: 5, B: 3}}}))
	expect(t, "the room", got(room[:6]), got(make([]impl.Clue, 6)))
}

func TestBestClue(t *testing.T) {
	for _, p := range somePuzzles() {
		best, fewest := 0, 401
		for k, c := range p.Clues {
			if n := len(plainSolutions(c)); n < fewest {
				best, fewest = k, n
			}
		}
		k, ok := impl.BestClue(p)
		expect(t, call("BestClue", p), got(k, ok), got(best, len(p.Clues) > 0))
	}
}

func TestBestClueByHand(t *testing.T) {
	for text, want := range map[string]int{
		"3.1.1":                               0,
		"0.0.1000":                            0,
		"5.0.11,4.9.1":                        0,
		"4.9.1,5.0.11":                        1,
		"4.9.1,5.0.11,0.0.44,1.0.9":           2,
		"3.1.1,3.40.0,3.1.1":                  0,
		"0.0.44,0.0.44":                       0,
		"4.2.1,0.0.44,1.0.0,0.0.817":          1,
		"3.1.1,5.0.3,3.2.0,5.0.3":             1,
		"0.0.44,0.0.1000,5.0.0":               1,
		"3.1.1,3.1.1,3.1.1,3.1.1,3.1.1,4.2.0": 5,
	} {
		k, ok := impl.BestClue(parsedPuzzle(t, text))
		expect(t, call("BestClue", text), got(k, ok), got(want, true))
	}
	wantZero(t, "BestClue", impl.BestClue, impl.Puzzle{})
}

// plainHarder marks the clues that stay, and asks for all of them again.
func plainHarder(p impl.Puzzle) []impl.Clue {
	taken := make([]bool, len(p.Clues))
	left := func() []impl.Clue {
		clues := []impl.Clue{}
		for k, c := range p.Clues {
			if !taken[k] {
				clues = append(clues, c)
			}
		}
		return clues
	}
	for k := range p.Clues {
		taken[k] = true
		taken[k] = len(plainSolutions(left()...)) == 1
	}
	return left()
}

func TestHarderPuzzle(t *testing.T) {
	solved := 0
	for _, p := range somePuzzles() {
		solutions := plainSolutions(p.Clues...)
		if len(solutions) != 1 {
			wantZero(t, "HarderPuzzle", impl.HarderPuzzle, p)
			continue
		}
		solved++
		harder, ok := impl.HarderPuzzle(p)
		expect(t, call("HarderPuzzle", p), got(harder.Clues, ok), got(plainHarder(p), true))
		// Promise 9: the same book solves it, and no clue of it is needless.
		same, _ := impl.Solutions(harder)
		expect(t, call("the solutions of HarderPuzzle", p), same, solutions)
		needless, _ := impl.NeedlessClues(harder)
		expect(t, call("the needless clues of HarderPuzzle", p), notNil(needless), []int{})
	}
	if solved < 100 {
		t.Error("only", solved, "puzzles are solved")
	}
}

func TestHarderPuzzleByHand(t *testing.T) {
	for text, want := range map[string]string{
		"0.0.44":        "0.0.44",
		"5.0.11,1.0.9":  "5.0.11,1.0.9",
		"0.0.44,5.0.11": "0.0.44",
		"5.0.11,0.0.44": "0.0.44",
		// Each one of six clues is needed.
		"2.0.3,2.5.4,3.17.0,4.5.1,4.7.0,3.14.1": "2.0.3,2.5.4,3.17.0,4.5.1,4.7.0,3.14.1",
		// All but one are taken out, as with none no puzzle is solved.
		"0.0.44,0.0.44,0.0.44,0.0.44,0.0.44,0.0.44": "0.0.44",
		"0.0.44,3.1.1,4.2.1,4.5.1,3.3.1,3.4.0":      "0.0.44",
		// The first one is taken out, though two of the others could be without it there.
		"0.0.44,1.0.9,5.0.11":                 "1.0.9,5.0.11",
		"1.0.9,0.0.44,5.0.11":                 "0.0.44",
		"1.0.9,5.0.11,0.0.44":                 "0.0.44",
		"4.2.1,3.2.0,4.8.1,4.5.1,3.1.1,4.2.1": "3.2.0,4.8.1,4.5.1",
		"3.20.1,5.0.79":                       "5.0.79",
		"5.0.79,3.20.1":                       "3.20.1",
		// Two hidden books leave 741.
		"3.20.1,0.0.741": "3.20.1",
	} {
		harder, ok := impl.HarderPuzzle(parsedPuzzle(t, text))
		expect(t, call("HarderPuzzle", text), got(plainPuzzleText(harder), ok), got(want, true))
	}
	for _, text := range []string{"", "3.1.1", "5.0.11", "0.0.1000", "5.0.11,4.9.1", "0.0.44,5.0.7", "3.19.1", "4.2.1,4.2.0,0.0.44"} {
		wantZero(t, "HarderPuzzle", impl.HarderPuzzle, parsedPuzzle(t, text))
	}
}
