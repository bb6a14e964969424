package tests

import (
	"testing"

	"loop.example/g01394/impl"
)

func TestInvalidBooksOfSignatures(t *testing.T) {
	for _, pages := range outside(1, impl.MaxPages) {
		n, ok := impl.SheetsFor(pages)
		expect(t, call("SheetsFor", pages), got(n, ok), got(0, false))
		n, ok = impl.BlankPages(pages)
		expect(t, call("BlankPages", pages), got(n, ok), got(0, false))
		invalidBook(t, pages, 2)
	}
	for _, pages := range []int{1, 10, impl.MaxPages} {
		for _, per := range outside(1, impl.MaxPer) {
			invalidBook(t, pages, per)
		}
	}
}

func invalidBook(t *testing.T, pages, per int) {
	t.Helper()
	n, ok := impl.SignaturesFor(pages, per)
	expect(t, call("SignaturesFor", pages, per), got(n, ok), got(0, false))
	a, b, ok := impl.SignatureOfPage(pages, per, 1)
	expect(t, call("SignatureOfPage", pages, per, 1), got(a, b, ok), got(0, 0, false))
	n, ok = impl.PageInBook(pages, per, 1, 1)
	expect(t, call("PageInBook", pages, per, 1, 1), got(n, ok), got(0, false))
	list, ok := impl.SewnOpenings(pages, per)
	expect(t, call("SewnOpenings", pages, per), got(len(list), ok), got(0, false))
	a, b, ok = impl.BestPer(pages, per)
	expect(t, call("BestPer", pages, per), got(a, b, ok), got(0, 0, false))
}

func TestInvalidPagesOfSignatures(t *testing.T) {
	for _, pages := range []int{1, 10, 16, 1999, impl.MaxPages} {
		for _, per := range []int{1, 2, impl.MaxPer} {
			// A blank page of the last signature is no page of the book either.
			for _, page := range outside(1, pages) {
				a, b, ok := impl.SignatureOfPage(pages, per, page)
				expect(t, call("SignatureOfPage", pages, per, page), got(a, b, ok), got(0, 0, false))
			}
			for _, page := range outside(1, 4*per) {
				n, ok := impl.PageInBook(pages, per, 1, page)
				expect(t, call("PageInBook", pages, per, 1, page), got(n, ok), got(0, false))
			}
			for _, signature := range outside(1, (pages+4*per-1)/(4*per)) {
				n, ok := impl.PageInBook(pages, per, signature, 1)
				expect(t, call("PageInBook", pages, per, signature, 1), got(n, ok), got(0, false))
			}
		}
	}
}

func TestSignaturesPastTheEndOfNumbers(t *testing.T) {
	// So many pages before the signature wrap around to none, or nearly none.
	for _, c := range []struct{ per, signature int }{{1, 1<<62 + 1}, {1, 1<<62 + 2}, {2, 1<<61 + 1}, {4, 1<<61 + 1}, {16, 1<<58 + 1}, {16, 1<<62 + 3}} {
		for page := 1; page <= 4*c.per; page++ {
			n, ok := impl.PageInBook(impl.MaxPages, c.per, c.signature, page)
			expect(t, call("PageInBook", impl.MaxPages, c.per, c.signature, page), got(n, ok), got(0, false))
		}
	}
}

func TestInvalidSheets(t *testing.T) {
	// SheetsFor returns up to 500 sheets, but no function takes more than MaxSheets.
	for _, sheets := range append(outside(1, impl.MaxSheets), 500) {
		for _, sheet := range []int{1, 2, impl.MaxSheets, sheets} {
			invalidSheet(t, sheets, sheet)
		}
		invalidPageOfSheets(t, sheets, 1)
		list, ok := impl.PrintOrder(sheets)
		expect(t, call("PrintOrder", sheets), got(len(list), ok), got(0, false))
		a, b, ok := impl.MiddlePages(sheets)
		expect(t, call("MiddlePages", sheets), got(a, b, ok), got(0, 0, false))
		n, ok := impl.SheetOfPartners(1, 4*sheets, sheets)
		expect(t, call("SheetOfPartners", 1, 4*sheets, sheets), got(n, ok), got(0, false))
	}
	for _, sheets := range []int{1, 2, 99, impl.MaxSheets} {
		for _, sheet := range outside(1, sheets) {
			invalidSheet(t, sheets, sheet)
		}
		for _, page := range outside(1, 4*sheets) {
			invalidPageOfSheets(t, sheets, page)
		}
	}
}

func invalidSheet(t *testing.T, sheets, sheet int) {
	t.Helper()
	for _, back := range []bool{false, true} {
		a, b, ok := impl.SideOfSheet(sheets, sheet, back)
		expect(t, call("SideOfSheet", sheets, sheet, back), got(a, b, ok), got(0, 0, false))
	}
	list, ok := impl.PagesWithout(sheets, sheet)
	expect(t, call("PagesWithout", sheets, sheet), got(len(list), ok), got(0, false))
}

func invalidPageOfSheets(t *testing.T, sheets, page int) {
	t.Helper()
	number, back, right, ok := impl.PlaceOfPage(sheets, page)
	expect(t, call("PlaceOfPage", sheets, page), got(number, back, right, ok), got(0, false, false, false))
	n, ok := impl.PartnerPage(sheets, page)
	expect(t, call("PartnerPage", sheets, page), got(n, ok), got(0, false))
	for _, other := range []int{1, 4, 4 * sheets, 4*sheets + 1 - page, page} {
		n, ok = impl.SheetOfPartners(page, other, sheets)
		expect(t, call("SheetOfPartners", page, other, sheets), got(n, ok), got(0, false))
		n, ok = impl.SheetOfPartners(other, page, sheets)
		expect(t, call("SheetOfPartners", other, page, sheets), got(n, ok), got(0, false))
	}
}

func TestInvalidFolds(t *testing.T) {
	for _, folds := range outside(0, impl.MaxFolds) {
		list, ok := impl.StripOrder(folds)
		expect(t, call("StripOrder", folds), got(len(list), ok), got(0, false))
		list, ok = impl.StripLabels(folds)
		expect(t, call("StripLabels", folds), got(len(list), ok), got(0, false))
		n, ok := impl.PlaceInStrip(folds, 1)
		expect(t, call("PlaceInStrip", folds, 1), got(n, ok), got(0, false))
		s, ok := impl.CreasesOf(folds)
		expect(t, call("CreasesOf", folds), got(s, ok), got("", false))
		s, ok = impl.CreaseAt(folds, 1)
		expect(t, call("CreaseAt", folds, 1), got(s, ok), got("", false))
	}
	for folds := 0; folds <= impl.MaxFolds; folds++ {
		for _, part := range outside(1, 1<<folds) {
			n, ok := impl.PlaceInStrip(folds, part)
			expect(t, call("PlaceInStrip", folds, part), got(n, ok), got(0, false))
		}
		for _, k := range outside(1, 1<<folds-1) {
			s, ok := impl.CreaseAt(folds, k)
			expect(t, call("CreaseAt", folds, k), got(s, ok), got("", false))
		}
	}
}

func TestAnyFolds(t *testing.T) {
	for _, a := range anyNumbers() {
		checkZero(t, "SheetsFor", impl.SheetsFor, a)
		checkZero(t, "BlankPages", impl.BlankPages, a)
		checkZero(t, "PrintOrder", impl.PrintOrder, a)
		checkZero(t, "MiddlePages", impl.MiddlePages, a)
		checkZero(t, "StripOrder", impl.StripOrder, a)
		checkZero(t, "StripLabels", impl.StripLabels, a)
		checkZero(t, "CreasesOf", impl.CreasesOf, a)
		for _, b := range anyNumbers() {
			checkZero(t, "SideOfSheet", impl.SideOfSheet, a, b, false)
			checkZero(t, "SideOfSheet", impl.SideOfSheet, a, b, true)
			checkZero(t, "PlaceOfPage", impl.PlaceOfPage, a, b)
			checkZero(t, "PartnerPage", impl.PartnerPage, a, b)
			checkZero(t, "PagesWithout", impl.PagesWithout, a, b)
			checkZero(t, "SignaturesFor", impl.SignaturesFor, a, b)
			checkZero(t, "SewnOpenings", impl.SewnOpenings, a, b)
			checkZero(t, "BestPer", impl.BestPer, a, b)
			checkZero(t, "PlaceInStrip", impl.PlaceInStrip, a, b)
			checkZero(t, "CreaseAt", impl.CreaseAt, a, b)
			for _, c := range anyNumbers() {
				n, ok := impl.SheetOfPartners(a, b, c)
				zeroUnlessOK(t, "SheetOfPartners", n, ok)
				x, y, ok := impl.SignatureOfPage(a, b, c)
				zeroUnlessOK(t, "SignatureOfPage", x, y, ok)
				n, ok = impl.PageInBook(a, b, c, 1)
				zeroUnlessOK(t, "PageInBook", n, ok)
				n, ok = impl.PageInBook(a, b, 1, c)
				zeroUnlessOK(t, "PageInBook", n, ok)
			}
		}
	}
}
