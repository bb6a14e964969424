package tests

import (
	"fmt"
	"slices"
	"strings"
	"testing"

	"loop.example/g01394/impl"
)

// limitsOfKind has the numbers that clues of one kind may have. Of B the least one is 0.
type limitsOfKind struct{ kind, leastA, mostA, mostB int }

func allKinds() []limitsOfKind {
	return []limitsOfKind{{0, 0, 0, 1000}, {1, 0, 0, 1000}, {2, 0, 9, 1000}, {3, 1, 40, 1}, {4, 2, 9, 1}, {5, 0, 0, 1000}}
}

func allHiddenBooks() []impl.Hidden {
	var books []impl.Hidden
	for pages := 2; pages <= 40; pages++ {
		for leaf := 1; 2*leaf <= pages; leaf++ {
			books = append(books, impl.Hidden{Pages: pages, Leaf: leaf})
		}
	}
	return books
}

// plainTold crosses out both numbers of the leaf, and looks at the others as they are written.
func plainTold(kind, a int, h impl.Hidden) int {
	sum, digits, with := 0, 0, 0
	for page := 1; page <= h.Pages; page++ {
		if page == h.Leaf+h.Leaf || page == h.Leaf+h.Leaf-1 {
			continue
		}
		sum += page
		digits += len(fmt.Sprint(page))
		if strings.Contains(fmt.Sprint(page), fmt.Sprint(a)) {
			with++
		}
	}
	isSo := map[bool]int{true: 1}
	return []int{sum, digits, with, isSo[h.Leaf >= a], isSo[a > 0 && h.Pages%max(a, 1) == 0], h.Leaf + h.Leaf + h.Leaf + h.Leaf - 1}[kind]
}

// toldOfBooks keeps what each hidden book tells for a kind and an A, as the same clues are looked at again and again.
var toldOfBooks = map[[2]int][]int{}

func toldByAll(kind, a int) []int {
	key := [2]int{kind, a}
	if toldOfBooks[key] == nil {
		for _, h := range allHiddenBooks() {
			toldOfBooks[key] = append(toldOfBooks[key], plainTold(kind, a, h))
		}
	}
	return toldOfBooks[key]
}

func plainSolutions(clues ...impl.Clue) []impl.Hidden {
	solutions := []impl.Hidden{}
	for k, h := range allHiddenBooks() {
		if !slices.ContainsFunc(clues, func(c impl.Clue) bool { return toldByAll(c.Kind, c.A)[k] != c.B }) {
			solutions = append(solutions, h)
		}
	}
	return solutions
}

// somePuzzles has for each hidden book a puzzle of 0 up to 6 clues that it fits, which follow no rule that one could see, and one of which a clue is changed.
func somePuzzles() []impl.Puzzle {
	var puzzles []impl.Puzzle
	next := 1
	random := func(many int) int {
		next = next * 75 % 65537
		return next / 7 % many
	}
	for k, h := range allHiddenBooks() {
		var p impl.Puzzle
		for range k % 7 {
			kind := allKinds()[random(6)]
			a := kind.leastA + random(kind.mostA-kind.leastA+1)
			p.Clues = append(p.Clues, impl.Clue{Kind: kind.kind, A: a, B: plainTold(kind.kind, a, h)})
		}
		puzzles = append(puzzles, p)
		if len(p.Clues) > 0 {
			other := slices.Clone(p.Clues)
			changed := &other[random(len(other))]
			if changed.B > 0 {
				changed.B--
			} else {
				changed.B++
			}
			puzzles = append(puzzles, impl.Puzzle{Clues: other})
		}
	}
	return puzzles
}

func plainWithout(clues []impl.Clue, k int) []impl.Clue {
	others := []impl.Clue{}
	for other, clue := range clues {
		if other != k {
			others = append(others, clue)
		}
	}
	return others
}

func plainPuzzleText(p impl.Puzzle) string {
	var texts []string
	for _, c := range p.Clues {
		texts = append(texts, fmt.Sprintf("%d.%d.%d", c.Kind, c.A, c.B))
	}
	return strings.Join(texts, ",")
}

func parsedPuzzle(t *testing.T, text string) impl.Puzzle {
	t.Helper()
	p, ok := impl.ParsePuzzle(text)
	expect(t, call("ParsePuzzle", text), ok, true)
	return p
}

func TestLimitsOfPuzzles(t *testing.T) {
	expect(t, "the limits", []int{impl.MaxHidden, impl.MaxClues}, []int{40, 6})
}

func TestPuzzleExample(t *testing.T) {
	p := parsedPuzzle(t, "0.0.44")
	solutions, ok := impl.Solutions(p)
	expect(t, "Solutions", got(solutions, ok), got([]impl.Hidden{{Pages: 10, Leaf: 3}}, true))
	left, ok := impl.LeftByClues(p)
	expect(t, "LeftByClues", got(left, ok), got([]int{400, 1}, true))
	p = parsedPuzzle(t, "5.0.11,4.9.1")
	solutions, ok = impl.Solutions(p)
	expect(t, "Solutions", got(solutions, ok), got([]impl.Hidden{{Pages: 9, Leaf: 3}, {Pages: 18, Leaf: 3}, {Pages: 27, Leaf: 3}, {Pages: 36, Leaf: 3}}, true))
	sure, ok := impl.SureHidden(p)
	expect(t, "SureHidden", got(sure, ok), got(impl.Hidden{Pages: -1, Leaf: 3}, true))
}

func TestIsHidden(t *testing.T) {
	books := allHiddenBooks()
	expect(t, "all hidden books", len(books), 400)
	for pages := -3; pages <= 90; pages++ {
		for leaf := -3; leaf <= 50; leaf++ {
			h := impl.Hidden{Pages: pages, Leaf: leaf}
			if impl.IsHidden(h) != slices.Contains(books, h) {
				t.Errorf("IsHidden(%v) is %v", h, impl.IsHidden(h))
			}
		}
	}
	for _, h := range noHidden() {
		if impl.IsHidden(h) {
			t.Errorf("%v is one", h)
		}
	}
}

func TestIsClue(t *testing.T) {
	for _, kind := range allKinds() {
		for a := kind.leastA; a <= kind.mostA; a++ {
			for b := 0; b <= kind.mostB; b++ {
				if c := (impl.Clue{Kind: kind.kind, A: a, B: b}); !impl.IsClue(c) {
					t.Errorf("%v is none", c)
				}
			}
		}
	}
	for _, c := range noClues() {
		if impl.IsClue(c) {
			t.Errorf("%v is one", c)
		}
	}
}

func TestIsPuzzle(t *testing.T) {
	good := impl.Clue{Kind: 3, A: 40, B: 1}
	for many := 0; many <= impl.MaxClues; many++ {
		clues := slices.Repeat([]impl.Clue{good}, many)
		expect(t, call("IsPuzzle of clues", many), impl.IsPuzzle(impl.Puzzle{Clues: clues}), true)
		for place := range clues {
			other := slices.Clone(clues)
			other[place].A++
			expect(t, call("IsPuzzle with no clue at", many, place), impl.IsPuzzle(impl.Puzzle{Clues: other}), false)
		}
	}
	for _, p := range somePuzzles() {
		expect(t, call("IsPuzzle", p), impl.IsPuzzle(p), true)
	}
	for _, p := range noPuzzles() {
		if impl.IsPuzzle(p) {
			t.Errorf("%v is one", p)
		}
	}
}

func TestDoesFit(t *testing.T) {
	for _, kind := range allKinds() {
		for a := kind.leastA; a <= kind.mostA; a++ {
			for k, h := range allHiddenBooks() {
				told := toldByAll(kind.kind, a)[k]
				for _, b := range []int{0, 1, told - 1, told, told + 1, 1000} {
					if b < 0 || b > kind.mostB {
						continue
					}
					c := impl.Clue{Kind: kind.kind, A: a, B: b}
					if does, ok := impl.DoesFit(c, h); does != (b == told) || !ok {
						t.Errorf("DoesFit(%v, %v) is %v, %v", c, h, does, ok)
					}
				}
			}
		}
	}
}

func TestDoesFitByHand(t *testing.T) {
	for _, c := range []struct {
		pages, leaf int
		fits, not   string
	}{
		// No number is left.
		{2, 1, "0.0.0,1.0.0,2.0.0,3.1.1,4.2.1,5.0.3", "0.0.3,1.0.2,2.1.1,3.1.0,4.2.0,5.0.0"},
		{2, 1, "2.1.0,2.9.0,3.2.0,3.40.0,4.3.0,4.9.0", "2.1.2,2.9.1,3.2.1,3.40.1,4.3.1,4.9.1"},
		// The page 3 is alone on its leaf, which is not torn.
		{3, 1, "0.0.3,1.0.1,2.3.1,3.2.0,4.3.1,5.0.3", "0.0.0,1.0.0,2.3.0,3.2.1,4.3.0,5.0.7"},
		{9, 4, "0.0.30,1.0.7,2.9.1,2.8.0,4.9.1,5.0.15", "0.0.36,1.0.9,2.9.0,2.8.1,4.9.0,5.0.16"},
		// The leaf 5 has the numbers 9 and 10.
		{10, 5, "0.0.36,1.0.8,2.0.0,2.1.1,3.5.1,3.6.0", "0.0.35,1.0.9,2.0.1,2.1.2,3.5.0,3.6.1"},
		{11, 5, "0.0.47,1.0.10,2.0.0,2.1.2,4.5.0,5.0.19", "0.0.48,1.0.9,2.0.1,2.1.3,4.5.1,5.0.18"},
		{40, 1, "0.0.817,1.0.69,2.1.12,2.2.12,2.0.4,3.1.1", "0.0.820,1.0.71,2.1.13,2.2.13,2.0.5,3.1.0"},
		{40, 20, "0.0.741,1.0.67,2.4.4,2.3.12,3.20.1,3.21.0", "0.0.740,1.0.68,2.4.5,2.3.13,3.20.0,3.21.1"},
		{40, 20, "4.2.1,4.8.1,4.5.1,4.9.0,4.7.0,5.0.79", "4.2.0,4.8.0,4.5.0,4.9.1,4.7.1,5.0.80"},
		{39, 19, "0.0.705,1.0.65,2.9.4,4.2.0,4.3.1,5.0.75", "0.0.703,1.0.69,2.9.5,4.2.1,4.3.0,5.0.79"},
		// A number with a digit twice is one number.
		{40, 6, "2.1.11,2.2.12,2.9.4,3.6.1,3.7.0,5.0.23", "2.1.12,2.2.13,2.9.5,3.6.0,3.7.1,5.0.24"},
	} {
		h := impl.Hidden{Pages: c.pages, Leaf: c.leaf}
		for want, text := range map[bool]string{true: c.fits, false: c.not} {
			for _, clue := range parsedPuzzle(t, text).Clues {
				does, ok := impl.DoesFit(clue, h)
				expect(t, call("DoesFit", clue, h), got(does, ok), got(want, true))
			}
		}
	}
}

// wantSolutions holds all that is told of the solutions of a puzzle against these.
func wantSolutions(t *testing.T, p impl.Puzzle, want []impl.Hidden) {
	t.Helper()
	solutions, ok := impl.Solutions(p)
	expect(t, call("Solutions", p), got(notNil(solutions), ok), got(want, true))
	n, ok := impl.CountSolutions(p)
	expect(t, call("CountSolutions", p), got(n, ok), got(len(want), true))
	solved, ok := impl.IsSolved(p)
	expect(t, call("IsSolved", p), got(solved, ok), got(len(want) == 1, true))
	if len(want) == 0 {
		wantZero(t, "FirstSolution", impl.FirstSolution, p)
		wantZero(t, "SureHidden", impl.SureHidden, p)
		return
	}
	first, ok := impl.FirstSolution(p)
	expect(t, call("FirstSolution", p), got(first, ok), got(want[0], true))
	pages, leaves := map[int]bool{}, map[int]bool{}
	for _, h := range want {
		pages[h.Pages], leaves[h.Leaf] = true, true
	}
	sure := want[0]
	if len(pages) > 1 {
		sure.Pages = -1
	}
	if len(leaves) > 1 {
		sure.Leaf = -1
	}
	h, ok := impl.SureHidden(p)
	expect(t, call("SureHidden", p), got(h, ok), got(sure, true))
}

func TestSolutions(t *testing.T) {
	for _, p := range somePuzzles() {
		wantSolutions(t, p, plainSolutions(p.Clues...))
	}
}

func TestSolutionsOfEachClue(t *testing.T) {
	for _, kind := range allKinds() {
		for a := kind.leastA; a <= kind.mostA; a++ {
			for _, b := range append(slices.Clone(toldByAll(kind.kind, a)), 0, kind.mostB, 818) {
				if b <= kind.mostB {
					c := impl.Clue{Kind: kind.kind, A: a, B: b}
					if n, ok := impl.CountSolutions(impl.Puzzle{Clues: []impl.Clue{c}}); n != len(plainSolutions(c)) || !ok {
						t.Errorf("CountSolutions by %v is %d, %v", c, n, ok)
					}
				}
			}
		}
	}
}

func TestSolutionsByHand(t *testing.T) {
	for _, c := range []struct {
		text        string
		many        int
		first, sure impl.Hidden
	}{
		{"", 400, impl.Hidden{Pages: 2, Leaf: 1}, impl.Hidden{Pages: -1, Leaf: -1}},
		{"3.1.1", 400, impl.Hidden{Pages: 2, Leaf: 1}, impl.Hidden{Pages: -1, Leaf: -1}},
		{"3.40.0", 400, impl.Hidden{Pages: 2, Leaf: 1}, impl.Hidden{Pages: -1, Leaf: -1}},
		{"3.1.1,3.1.1,3.21.0,3.40.0,3.1.1,3.40.0", 400, impl.Hidden{Pages: 2, Leaf: 1}, impl.Hidden{Pages: -1, Leaf: -1}},
		{"3.1.0", 0, impl.Hidden{}, impl.Hidden{}},
		{"3.21.1", 0, impl.Hidden{}, impl.Hidden{}},
		{"3.40.1", 0, impl.Hidden{}, impl.Hidden{}},
		{"0.0.1000", 0, impl.Hidden{}, impl.Hidden{}},
		{"1.0.70", 0, impl.Hidden{}, impl.Hidden{}},
		{"5.0.0", 0, impl.Hidden{}, impl.Hidden{}},
		{"5.0.83", 0, impl.Hidden{}, impl.Hidden{}},
		{"4.2.1,4.2.0", 0, impl.Hidden{}, impl.Hidden{}},
		{"0.0.44,5.0.7", 0, impl.Hidden{}, impl.Hidden{}},
		{"0.0.0", 1, impl.Hidden{Pages: 2, Leaf: 1}, impl.Hidden{Pages: 2, Leaf: 1}},
		{"1.0.0", 1, impl.Hidden{Pages: 2, Leaf: 1}, impl.Hidden{Pages: 2, Leaf: 1}},
		{"0.0.817", 1, impl.Hidden{Pages: 40, Leaf: 1}, impl.Hidden{Pages: 40, Leaf: 1}},
		{"1.0.68", 1, impl.Hidden{Pages: 40, Leaf: 5}, impl.Hidden{Pages: 40, Leaf: 5}},
		{"5.0.79", 1, impl.Hidden{Pages: 40, Leaf: 20}, impl.Hidden{Pages: 40, Leaf: 20}},
		{"3.20.1", 1, impl.Hidden{Pages: 40, Leaf: 20}, impl.Hidden{Pages: 40, Leaf: 20}},
		{"3.20.0", 399, impl.Hidden{Pages: 2, Leaf: 1}, impl.Hidden{Pages: -1, Leaf: -1}},
		{"5.0.3", 39, impl.Hidden{Pages: 2, Leaf: 1}, impl.Hidden{Pages: -1, Leaf: 1}},
		{"3.2.0", 39, impl.Hidden{Pages: 2, Leaf: 1}, impl.Hidden{Pages: -1, Leaf: 1}},
		{"3.19.1", 4, impl.Hidden{Pages: 38, Leaf: 19}, impl.Hidden{Pages: -1, Leaf: -1}},
		{"1.0.69", 4, impl.Hidden{Pages: 40, Leaf: 1}, impl.Hidden{Pages: 40, Leaf: -1}},
		{"4.8.1,4.5.1", 20, impl.Hidden{Pages: 40, Leaf: 1}, impl.Hidden{Pages: 40, Leaf: -1}},
		{"4.9.1", 44, impl.Hidden{Pages: 9, Leaf: 1}, impl.Hidden{Pages: -1, Leaf: -1}},
		{"4.2.0", 190, impl.Hidden{Pages: 3, Leaf: 1}, impl.Hidden{Pages: -1, Leaf: -1}},
		{"4.2.1", 210, impl.Hidden{Pages: 2, Leaf: 1}, impl.Hidden{Pages: -1, Leaf: -1}},
		{"2.0.0", 30, impl.Hidden{Pages: 2, Leaf: 1}, impl.Hidden{Pages: -1, Leaf: -1}},
		{"2.0.0,4.2.0,3.5.1", 5, impl.Hidden{Pages: 11, Leaf: 5}, impl.Hidden{Pages: -1, Leaf: 5}},
	} {
		p := parsedPuzzle(t, c.text)
		n, ok := impl.CountSolutions(p)
		expect(t, call("CountSolutions", c.text), got(n, ok), got(c.many, true))
		first, ok := impl.FirstSolution(p)
		expect(t, call("FirstSolution", c.text), got(first, ok), got(c.first, c.many > 0))
		sure, ok := impl.SureHidden(p)
		expect(t, call("SureHidden", c.text), got(sure, ok), got(c.sure, c.many > 0))
		solved, ok := impl.IsSolved(p)
		expect(t, call("IsSolved", c.text), got(solved, ok), got(c.many == 1, true))
	}
}

// TestSolutionsFitAllClues holds promise 9 against the calls themselves.
func TestSolutionsFitAllClues(t *testing.T) {
	for _, p := range somePuzzles() {
		solutions, _ := impl.Solutions(p)
		for _, h := range allHiddenBooks() {
			fits := true
			for _, clue := range p.Clues {
				does, ok := impl.DoesFit(clue, h)
				fits = fits && does && ok
			}
			if fits != slices.Contains(solutions, h) {
				t.Errorf("%v fits %v: %v, but is not so in %v", h, p, fits, solutions)
			}
		}
	}
}

func TestPuzzlesAreNew(t *testing.T) {
	room := []impl.Clue{{Kind: 0, B: 44}, {Kind: 5, B: 11}, {Kind: 1, B: 9}, {Kind: 7, A: 8, B: 9}, {Kind: 9}}
	p := impl.Puzzle{Clues: room[:3]}
	other := impl.Clue{Kind: 8}
	for name, clues := range map[string]func() []impl.Clue{
		"DropClue of the first": func() []impl.Clue { q, _ := impl.DropClue(p, 0); return q.Clues },
		"DropClue":              func() []impl.Clue { q, _ := impl.DropClue(p, 1); return q.Clues },
		"DropClue of the last":  func() []impl.Clue { q, _ := impl.DropClue(p, 2); return q.Clues },
		"DropClue of the only one": func() []impl.Clue {
			q, _ := impl.DropClue(impl.Puzzle{Clues: room[:1]}, 0)
			return q.Clues
		},
		"AddClue":         func() []impl.Clue { q, _ := impl.AddClue(p, p.Clues[0]); return q.Clues },
		"AddClue to none": func() []impl.Clue { q, _ := impl.AddClue(impl.Puzzle{Clues: room[:0]}, p.Clues[1]); return q.Clues },
		"HarderPuzzle":    func() []impl.Clue { q, _ := impl.HarderPuzzle(p); return q.Clues },
		"HarderPuzzle from which nothing is taken": func() []impl.Clue {
			q, _ := impl.HarderPuzzle(impl.Puzzle{Clues: room[1:3]})
			return q.Clues
		},
		"HarderPuzzle from which the last is taken": func() []impl.Clue {
			q, _ := impl.HarderPuzzle(impl.Puzzle{Clues: room[:2]})
			return q.Clues
		},
		"MakePuzzle":  func() []impl.Clue { q, _ := impl.MakePuzzle(impl.Hidden{Pages: 10, Leaf: 3}, 6, 1); return q.Clues },
		"ParsePuzzle": func() []impl.Clue { q, _ := impl.ParsePuzzle("5.0.11,4.9.1"); return q.Clues },
	} {
		wantOwnMemory(t, name, clues, room, other)
	}
	wantOwnMemory(t, "Solutions", func() []impl.Hidden { l, _ := impl.Solutions(p); return l }, room, impl.Hidden{Pages: -7})
	wantOwnMemory(t, "NeedlessClues", func() []int { l, _ := impl.NeedlessClues(p); return l }, room, -7)
	wantOwnMemory(t, "LeftByClues", func() []int { l, _ := impl.LeftByClues(p); return l }, room, -7)
	impl.IsPuzzle(p)
	impl.CountSolutions(p)
	impl.FirstSolution(p)
	impl.SureHidden(p)
	impl.IsSolved(p)
	impl.BestClue(p)
	impl.PuzzleText(p)
	expect(t, "the room", got(room), got([]impl.Clue{{Kind: 0, B: 44}, {Kind: 5, B: 11}, {Kind: 1, B: 9}, {Kind: 7, A: 8, B: 9}, {Kind: 9}}))
}
