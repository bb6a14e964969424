package tests

import (
	"testing"

	"loop.example/g01394/impl"
)

// plainSheet has the pages of a sheet: front left, front right, back left and back right.
type plainSheet [4]int

// foldedByHand numbers the pages of a signature as they are turned: into the middle over the right halves of the sheets, and out again over the left ones.
func foldedByHand(sheets int) []plainSheet {
	folded := make([]plainSheet, sheets)
	page := 0
	for k := range folded {
		folded[k][1] = page + 1
		folded[k][2] = page + 2
		page += 2
	}
	for k := sheets - 1; k >= 0; k-- {
		folded[k][3] = page + 1
		folded[k][0] = page + 2
		page += 2
	}
	return folded
}

// sewnByHand deals the pages of a book, blank ones with them, to signatures.
func sewnByHand(pages, per int) [][]int {
	var signatures [][]int
	for page := 1; page <= pages; {
		var signature []int
		for range 4 * per {
			signature = append(signature, page)
			page++
		}
		signatures = append(signatures, signature)
	}
	return signatures
}

// someBooks has books about the edges of signatures beside the ones of edgeBooks.
func someBooks() []int {
	return append(edgeBooks(), 5, 7, 8, 13, 16, 17, 20, 31, 32, 33, 63, 64, 65, 66, 127, 128, 129, 399, 400, 401, 1984, 1985)
}

func TestFoldExample(t *testing.T) {
	for _, c := range []struct {
		sheet       int
		back        bool
		left, right int
	}{{1, false, 8, 1}, {1, true, 2, 7}, {2, false, 6, 3}, {2, true, 4, 5}} {
		left, right, ok := impl.SideOfSheet(2, c.sheet, c.back)
		expect(t, call("SideOfSheet", 2, c.sheet, c.back), got(left, right, ok), got(c.left, c.right, true))
	}
	n, ok := impl.PartnerPage(2, 3)
	expect(t, "PartnerPage 2 3", got(n, ok), got(6, true))
	n, ok = impl.SheetsFor(10)
	expect(t, "SheetsFor 10", got(n, ok), got(3, true))
	n, ok = impl.BlankPages(10)
	expect(t, "BlankPages 10", got(n, ok), got(2, true))
	n, ok = impl.SignaturesFor(10, 2)
	expect(t, "SignaturesFor 10 2", got(n, ok), got(2, true))
	signature, page, ok := impl.SignatureOfPage(10, 2, 10)
	expect(t, "SignatureOfPage 10 2 10", got(signature, page, ok), got(2, 2, true))
	openings, ok := impl.SewnOpenings(16, 2)
	expect(t, "SewnOpenings 16 2", got(openings, ok), got([]int{4, 12}, true))
	per, blanks, ok := impl.BestPer(20, 3)
	expect(t, "BestPer 20 3", got(per, blanks, ok), got(1, 0, true))
	order, ok := impl.StripOrder(2)
	expect(t, "StripOrder 2", got(order, ok), got([]int{2, 3, 4, 1}, true))
	labels, ok := impl.StripLabels(2)
	expect(t, "StripLabels 2", got(labels, ok), got([]int{4, 1, 2, 3}, true))
	creases, ok := impl.CreasesOf(3)
	expect(t, "CreasesOf 3", got(creases, ok), got("vvmvvmm", true))
}

func TestConsoleExampleOfFolds(t *testing.T) {
	n, ok := impl.SheetsFor(100)
	expect(t, "SheetsFor 100", got(n, ok), got(25, true))
	n, ok = impl.BlankPages(100)
	expect(t, "BlankPages 100", got(n, ok), got(0, true))
	n, ok = impl.SignaturesFor(100, 2)
	expect(t, "SignaturesFor 100 2", got(n, ok), got(13, true))
	order, ok := impl.PrintOrder(2)
	expect(t, "PrintOrder 2", got(order, ok), got([]int{8, 1, 2, 7, 6, 3, 4, 5}, true))
}

func TestSheetsForBooks(t *testing.T) {
	for pages := 1; pages <= impl.MaxPages; pages++ {
		sheets, blanks := 0, -pages
		for blanks < 0 {
			sheets++
			blanks += 4
		}
		n, ok := impl.SheetsFor(pages)
		expect(t, call("SheetsFor", pages), got(n, ok), got(sheets, true))
		n, ok = impl.BlankPages(pages)
		expect(t, call("BlankPages", pages), got(n, ok), got(blanks, true))
	}
}

func TestSheetsForAtTheirEnds(t *testing.T) {
	for _, c := range []struct{ pages, sheets, blanks int }{
		{1, 1, 3}, {3, 1, 1}, {4, 1, 0}, {5, 2, 3},
		{396, 99, 0}, {397, 100, 3}, {400, 100, 0},
		// More sheets than MaxSheets may be returned.
		{401, 101, 3}, {402, 101, 2}, {404, 101, 0}, {1996, 499, 0}, {1997, 500, 3}, {1999, 500, 1}, {impl.MaxPages, 500, 0},
	} {
		n, ok := impl.SheetsFor(c.pages)
		expect(t, call("SheetsFor", c.pages), got(n, ok), got(c.sheets, true))
		n, ok = impl.BlankPages(c.pages)
		expect(t, call("BlankPages", c.pages), got(n, ok), got(c.blanks, true))
	}
}

func TestSidesAndPlaces(t *testing.T) {
	for sheets := 1; sheets <= impl.MaxSheets; sheets++ {
		for k, sheet := range foldedByHand(sheets) {
			for _, back := range []bool{false, true} {
				side := sheet[:2]
				if back {
					side = sheet[2:]
				}
				left, right, ok := impl.SideOfSheet(sheets, k+1, back)
				expect(t, call("SideOfSheet", sheets, k+1, back), got(left, right, ok), got(side[0], side[1], true))
				for place, page := range side {
					number, onBack, onRight, ok := impl.PlaceOfPage(sheets, page)
					expect(t, call("PlaceOfPage", sheets, page), got(number, onBack, onRight, ok), got(k+1, back, place == 1, true))
					partner, ok := impl.PartnerPage(sheets, page)
					expect(t, call("PartnerPage", sheets, page), got(partner, ok), got(side[1-place], true))
					number, ok = impl.SheetOfPartners(page, side[1-place], sheets)
					expect(t, call("SheetOfPartners", page, side[1-place], sheets), got(number, ok), got(k+1, true))
				}
			}
		}
	}
}

func TestOneSheet(t *testing.T) {
	order, ok := impl.PrintOrder(1)
	expect(t, "PrintOrder 1", got(order, ok), got([]int{4, 1, 2, 3}, true))
	left, right, ok := impl.MiddlePages(1)
	expect(t, "MiddlePages 1", got(left, right, ok), got(2, 3, true))
	rest, ok := impl.PagesWithout(1, 1)
	expect(t, "PagesWithout 1 1", got(len(rest), ok), got(0, true))
	number, back, onRight, ok := impl.PlaceOfPage(1, 4)
	expect(t, "PlaceOfPage 1 4", got(number, back, onRight, ok), got(1, false, false, true))
}

func TestWholeSignatures(t *testing.T) {
	for sheets := 1; sheets <= impl.MaxSheets; sheets++ {
		folded := foldedByHand(sheets)
		var printed []int
		for _, sheet := range folded {
			printed = append(printed, sheet[:]...)
		}
		order, ok := impl.PrintOrder(sheets)
		expect(t, call("PrintOrder", sheets), got(order, ok), got(printed, true))
		middle := folded[sheets-1]
		left, right, ok := impl.MiddlePages(sheets)
		expect(t, call("MiddlePages", sheets), got(left, right, ok), got(middle[2], middle[3], true))
		if left+1 != right {
			t.Errorf("the pages %d and %d in the middle of %d sheets do not face each other", left, right, sheets)
		}
	}
}

func TestPagesWithout(t *testing.T) {
	for _, sheets := range []int{1, 2, 3, 4, 5, 17, 64, 99, impl.MaxSheets} {
		for k, sheet := range foldedByHand(sheets) {
			out := map[int]bool{}
			for _, page := range sheet {
				out[page] = true
			}
			var want []int
			for page := range 4 * sheets {
				if !out[page+1] {
					want = append(want, page+1)
				}
			}
			rest, ok := impl.PagesWithout(sheets, k+1)
			expect(t, call("PagesWithout", sheets, k+1), got(rest, ok), got(want, true))
		}
	}
}

func TestSheetOfPartnersOfAnyPages(t *testing.T) {
	for _, sheets := range []int{1, 2, 3, 7, 40} {
		want := map[[2]int]int{}
		for k, sheet := range foldedByHand(sheets) {
			for _, side := range [][]int{sheet[:2], sheet[2:]} {
				want[[2]int{side[0], side[1]}] = k + 1
				want[[2]int{side[1], side[0]}] = k + 1
			}
		}
		for a := -2; a <= 4*sheets+3; a++ {
			for b := -2; b <= 4*sheets+3; b++ {
				number := want[[2]int{a, b}]
				n, ok := impl.SheetOfPartners(a, b, sheets)
				expect(t, call("SheetOfPartners", a, b, sheets), got(n, ok), got(number, number > 0))
			}
		}
	}
}

func TestSignaturesOfAllBooks(t *testing.T) {
	for pages := 1; pages <= impl.MaxPages; pages++ {
		best, fewest := 0, impl.MaxPages
		for per := 1; per <= impl.MaxPer; per++ {
			many, room := 0, 0
			for room < pages {
				many++
				room += 4 * per
			}
			n, ok := impl.SignaturesFor(pages, per)
			expect(t, call("SignaturesFor", pages, per), got(n, ok), got(many, true))
			if room-pages <= fewest {
				best, fewest = per, room-pages
			}
			chosen, blanks, ok := impl.BestPer(pages, per)
			expect(t, call("BestPer", pages, per), got(chosen, blanks, ok), got(best, fewest, true))
		}
	}
}

func TestBestPerOfSeveral(t *testing.T) {
	for _, c := range []struct{ pages, most, per, blanks int }{
		{1, 1, 1, 3},
		{1, 16, 1, 3},
		{16, 4, 4, 0},
		{16, 3, 2, 0},
		{48, 16, 12, 0},
		{10, 3, 3, 2},
		{9, 3, 3, 3},
		{7, 16, 2, 1},
		{64, 15, 8, 0},
		{64, 16, 16, 0},
		{1999, 16, 10, 1},
		{2000, 16, 10, 0},
	} {
		per, blanks, ok := impl.BestPer(c.pages, c.most)
		expect(t, call("BestPer", c.pages, c.most), got(per, blanks, ok), got(c.per, c.blanks, true))
	}
}

func TestPagesInSignatures(t *testing.T) {
	for _, pages := range someBooks() {
		for per := 1; per <= impl.MaxPer; per++ {
			signatures := sewnByHand(pages, per)
			for k, signature := range signatures {
				for place, page := range signature {
					if page > pages {
						n, ok := impl.PageInBook(pages, per, k+1, place+1)
						expect(t, call("PageInBook", pages, per, k+1, place+1), got(n, ok), got(0, false))
						continue
					}
					n, ok := impl.PageInBook(pages, per, k+1, place+1)
					expect(t, call("PageInBook", pages, per, k+1, place+1), got(n, ok), got(page, true))
					number, at, ok := impl.SignatureOfPage(pages, per, page)
					expect(t, call("SignatureOfPage", pages, per, page), got(number, at, ok), got(k+1, place+1, true))
				}
			}
			n, ok := impl.PageInBook(pages, per, len(signatures)+1, 1)
			expect(t, call("PageInBook", pages, per, len(signatures)+1, 1), got(n, ok), got(0, false))
		}
	}
}

func TestSewnOpenings(t *testing.T) {
	for _, pages := range someBooks() {
		for per := 1; per <= impl.MaxPer; per++ {
			var want []int
			for _, signature := range sewnByHand(pages, per) {
				if signature[2*per] <= pages {
					want = append(want, signature[2*per-1])
				}
			}
			openings, ok := impl.SewnOpenings(pages, per)
			expect(t, call("SewnOpenings", pages, per), got(len(openings), ok), got(len(want), true))
			expect(t, call("SewnOpenings", pages, per), openings, want)
		}
	}
}

func TestSewnOpeningsAtTheLastPage(t *testing.T) {
	for _, c := range []struct {
		pages, per int
		openings   []int
	}{
		{1, 1, nil},
		{2, 1, nil},
		{3, 1, []int{2}},
		{1, 16, nil},
		{32, 16, nil},
		{33, 16, []int{32}},
		{96, 16, []int{32}},
		{97, 16, []int{32, 96}},
		{12, 2, []int{4}},
		{13, 2, []int{4, 12}},
	} {
		openings, ok := impl.SewnOpenings(c.pages, c.per)
		expect(t, call("SewnOpenings", c.pages, c.per), got(len(openings), ok), got(len(c.openings), true))
		expect(t, call("SewnOpenings", c.pages, c.per), openings, c.openings)
	}
}

// plainStrip follows each part of a strip through the folds: its place from above, and the creases at their places.
func plainStrip(folds int) (places []int, creases string) {
	parts := 1 << folds
	column, above, turned := make([]int, parts), make([]int, parts), make([]bool, parts)
	marks := make([]byte, parts-1)
	for k := range column {
		column[k] = k
	}
	for columns, layers := parts, 1; columns > 1; columns, layers = columns/2, layers*2 {
		for k := range marks {
			if above[k] == above[k+1] && column[k]+column[k+1] == columns-1 && marks[k] == 0 {
				marks[k] = 'v'
				if turned[k] {
					marks[k] = 'm'
				}
			}
		}
		for k := range column {
			if column[k] < columns/2 {
				above[k] += layers
				continue
			}
			column[k] = columns - 1 - column[k]
			above[k] = layers - 1 - above[k]
			turned[k] = !turned[k]
		}
	}
	return above, string(marks)
}

func TestStrips(t *testing.T) {
	for folds := 0; folds <= impl.MaxFolds; folds++ {
		above, marks := plainStrip(folds)
		wantOrder, wantLabels := make([]int, len(above)), make([]int, len(above))
		for k, before := range above {
			wantOrder[before] = k + 1
			wantLabels[k] = before + 1
		}
		order, ok := impl.StripOrder(folds)
		expect(t, call("StripOrder", folds), got(order, ok), got(wantOrder, true))
		labels, ok := impl.StripLabels(folds)
		expect(t, call("StripLabels", folds), got(labels, ok), got(wantLabels, true))
		for k := range above {
			place, ok := impl.PlaceInStrip(folds, k+1)
			expect(t, call("PlaceInStrip", folds, k+1), got(place, ok), got(above[k]+1, true))
		}
		creases, ok := impl.CreasesOf(folds)
		expect(t, call("CreasesOf", folds), got(creases, ok), got(marks, true))
		for k := range len(marks) {
			crease, ok := impl.CreaseAt(folds, k+1)
			expect(t, call("CreaseAt", folds, k+1), got(crease, ok), got(marks[k:k+1], true))
		}
	}
}

func TestStripsHaveAllPartsOnce(t *testing.T) {
	for folds := 0; folds <= impl.MaxFolds; folds++ {
		order, _ := impl.StripOrder(folds)
		seen := map[int]bool{}
		for _, part := range order {
			if part < 1 || part > 1<<folds || seen[part] {
				t.Errorf("StripOrder %d has the part %d beside others or twice", folds, part)
			}
			seen[part] = true
		}
		expect(t, call("the parts of", folds), len(order), 1<<folds)
	}
}

func TestStripsByHand(t *testing.T) {
	for _, c := range []struct {
		folds   int
		order   []int
		labels  []int
		creases string
	}{
		{0, []int{1}, []int{1}, ""},
		{1, []int{2, 1}, []int{2, 1}, "v"},
		{2, []int{2, 3, 4, 1}, []int{4, 1, 2, 3}, "vvm"},
		{3, []int{2, 7, 6, 3, 4, 5, 8, 1}, []int{8, 1, 4, 5, 6, 3, 2, 7}, "vvmvvmm"},
	} {
		order, ok := impl.StripOrder(c.folds)
		expect(t, call("StripOrder", c.folds), got(order, ok), got(c.order, true))
		labels, ok := impl.StripLabels(c.folds)
		expect(t, call("StripLabels", c.folds), got(labels, ok), got(c.labels, true))
		creases, ok := impl.CreasesOf(c.folds)
		expect(t, call("CreasesOf", c.folds), got(creases, ok), got(c.creases, true))
	}
	place, ok := impl.PlaceInStrip(0, 1)
	expect(t, "PlaceInStrip 0 1", got(place, ok), got(1, true))
	crease, ok := impl.CreaseAt(0, 1)
	expect(t, "CreaseAt 0 1", got(crease, ok), got("", false))
}

func TestFoldsKeepTheirMemory(t *testing.T) {
	for name, list := range map[string]func() []int{
		"PrintOrder":   func() []int { l, _ := impl.PrintOrder(2); return l },
		"PagesWithout": func() []int { l, _ := impl.PagesWithout(2, 1); return l },
		"SewnOpenings": func() []int { l, _ := impl.SewnOpenings(16, 2); return l },
		"StripOrder":   func() []int { l, _ := impl.StripOrder(2); return l },
		"StripLabels":  func() []int { l, _ := impl.StripLabels(2); return l },
	} {
		first := list()
		before := got(first)
		for k := range first {
			first[k] = -1
		}
		expect(t, "a second "+name, got(list()), before)
	}
}

func TestSendersEnd(t *testing.T) {
	wantNoneLeft(t, func() {
		impl.PlaceOfPage(impl.MaxSheets, 1)
		impl.SheetOfPartners(1, 400, impl.MaxSheets)
		impl.PrintOrder(2)
	})
}
