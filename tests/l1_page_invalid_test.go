package tests

import (
	"testing"

	"loop.example/g01394/impl"
)

func TestInvalidBooks(t *testing.T) {
	for _, pages := range outside(1, impl.MaxPages) {
		is, ok := impl.IsPage(pages, 1)
		expect(t, call("IsPage", pages, 1), got(is, ok), got(false, false))
		n, ok := impl.FacingPage(pages, 2)
		expect(t, call("FacingPage", pages, 2), got(n, ok), got(0, false))
		n, ok = impl.LeavesOfBook(pages)
		expect(t, call("LeavesOfBook", pages), got(n, ok), got(0, false))
		n, ok = impl.DigitsOfBook(pages)
		expect(t, call("DigitsOfBook", pages), got(n, ok), got(0, false))
		n, ok = impl.CountDigit(pages, 1)
		expect(t, call("CountDigit", pages, 1), got(n, ok), got(0, false))
		n, ok = impl.PagesWithDigit(pages, 1)
		expect(t, call("PagesWithDigit", pages, 1), got(n, ok), got(0, false))
		n, ok = impl.SumOfPages(pages)
		expect(t, call("SumOfPages", pages), got(n, ok), got(0, false))
		for _, sum := range []int{0, 41, 1999998, 2002001 - 3, impl.MaxPages * impl.MaxPages} {
			n, ok = impl.TornLeaf(pages, sum)
			expect(t, call("TornLeaf", pages, sum), got(n, ok), got(0, false))
			n, ok = impl.CountTornTwo(pages, sum)
			expect(t, call("CountTornTwo", pages, sum), got(n, ok), got(0, false))
			a, b, ok := impl.FirstTornTwo(pages, sum)
			expect(t, call("FirstTornTwo", pages, sum), got(a, b, ok), got(0, 0, false))
		}
	}
}

func TestInvalidPages(t *testing.T) {
	for _, page := range outside(1, impl.MaxPages) {
		right, ok := impl.IsRightPage(page)
		expect(t, call("IsRightPage", page), got(right, ok), got(false, false))
		n, ok := impl.LeafOfPage(page)
		expect(t, call("LeafOfPage", page), got(n, ok), got(0, false))
		n, ok = impl.BackOfPage(page)
		expect(t, call("BackOfPage", page), got(n, ok), got(0, false))
	}
	for _, pages := range edgeBooks() {
		for _, page := range outside(1, pages) {
			n, ok := impl.FacingPage(pages, page)
			expect(t, call("FacingPage", pages, page), got(n, ok), got(0, false))
		}
	}
}

func TestInvalidLeaves(t *testing.T) {
	for _, leaf := range outside(1, impl.MaxPages/2) {
		a, b, ok := impl.PagesOfLeaf(leaf)
		expect(t, call("PagesOfLeaf", leaf), got(a, b, ok), got(0, 0, false))
		n, ok := impl.SumOfLeaf(leaf)
		expect(t, call("SumOfLeaf", leaf), got(n, ok), got(0, false))
	}
}

func TestInvalidDigits(t *testing.T) {
	for _, digits := range outside(1, impl.MaxDigitsUsed) {
		n, ok := impl.PagesForDigits(digits)
		expect(t, call("PagesForDigits", digits), got(n, ok), got(0, false))
		digit, page, ok := impl.DigitAtPlace(digits)
		expect(t, call("DigitAtPlace", digits), got(digit, page, ok), got(0, 0, false))
	}
	for _, digit := range outside(0, 9) {
		n, ok := impl.CountDigit(100, digit)
		expect(t, call("CountDigit", 100, digit), got(n, ok), got(0, false))
		n, ok = impl.PagesWithDigit(100, digit)
		expect(t, call("PagesWithDigit", 100, digit), got(n, ok), got(0, false))
		n, ok = impl.PagesForTypes(digit, 21)
		expect(t, call("PagesForTypes", digit, 21), got(n, ok), got(0, false))
	}
	for _, many := range outside(0, impl.MaxPages) {
		n, ok := impl.PagesForTypes(1, many)
		expect(t, call("PagesForTypes", 1, many), got(n, ok), got(0, false))
		n, ok = impl.PagesForTypes(0, many)
		expect(t, call("PagesForTypes", 0, many), got(n, ok), got(0, false))
	}
}

func TestInvalidSums(t *testing.T) {
	const most = impl.MaxPages * impl.MaxPages
	for _, sum := range outside(1, most) {
		a, b, ok := impl.TornFromSum(sum)
		expect(t, call("TornFromSum", sum), got(a, b, ok), got(0, 0, false))
	}
	for _, sum := range outside(0, most) {
		for _, pages := range []int{1, 2, 10, impl.MaxPages} {
			n, ok := impl.CountTornTwo(pages, sum)
			expect(t, call("CountTornTwo", pages, sum), got(n, ok), got(0, false))
			a, b, ok := impl.FirstTornTwo(pages, sum)
			expect(t, call("FirstTornTwo", pages, sum), got(a, b, ok), got(0, 0, false))
		}
		for leaves := 1; leaves <= impl.MaxTorn; leaves++ {
			can, ok := impl.CanBeTorn(sum, leaves)
			expect(t, call("CanBeTorn", sum, leaves), got(can, ok), got(false, false))
		}
	}
	for _, leaves := range outside(1, impl.MaxTorn) {
		for _, sum := range []int{0, 3, 14, 36} {
			can, ok := impl.CanBeTorn(sum, leaves)
			expect(t, call("CanBeTorn", sum, leaves), got(can, ok), got(false, false))
		}
	}
}

func TestNegativeSumsLeft(t *testing.T) {
	for pages := 1; pages <= 20; pages++ {
		for sum := -200; sum < 0; sum++ {
			n, ok := impl.TornLeaf(pages, sum)
			expect(t, call("TornLeaf", pages, sum), got(n, ok), got(0, false))
		}
		n, ok := impl.TornLeaf(pages, -1<<63)
		expect(t, call("TornLeaf", pages, -1<<63), got(n, ok), got(0, false))
	}
}

func TestAnyNumbers(t *testing.T) {
	for _, a := range anyNumbers() {
		impl.IsRightPage(a)
		impl.LeafOfPage(a)
		impl.PagesOfLeaf(a)
		impl.BackOfPage(a)
		impl.LeavesOfBook(a)
		impl.DigitsOfBook(a)
		impl.PagesForDigits(a)
		impl.DigitAtPlace(a)
		impl.SumOfPages(a)
		impl.SumOfLeaf(a)
		impl.TornFromSum(a)
		for _, b := range anyNumbers() {
			impl.IsPage(a, b)
			impl.FacingPage(a, b)
			impl.CountDigit(a, b)
			impl.PagesWithDigit(a, b)
			impl.PagesForTypes(a, b)
			impl.TornLeaf(a, b)
			impl.CountTornTwo(a, b)
			impl.FirstTornTwo(a, b)
			impl.CanBeTorn(a, b)
			impl.PagesText([]int{a, b})
		}
	}
}
