package impl

import (
	"strconv"
	"strings"
)

const MaxPages = 2000
const MaxTorn = 3
const MaxDigitsUsed = 6893

const (
	maxLeaves   = MaxPages / 2
	maxSum      = MaxPages * MaxPages
	maxListed   = 20
	maxListText = maxListed * len("2000,")
	leastRun    = 3
)

// digitCounts tells for each of the digits 0..9 how often it is used.
type digitCounts [10]int

// IsPage reports whether a number, whatever it is, is a page of a book.
func IsPage(pages int, page int) (bool, bool) {
	if !isBook(pages) {
		return false, false
	}
	return hasPage(pages, page), true
}

// IsRightPage reports whether a page is a right one.
func IsRightPage(page int) (bool, bool) {
	if !hasPage(MaxPages, page) {
		return false, false
	}
	return isOdd(page), true
}

// LeafOfPage returns the leaf of a page.
func LeafOfPage(page int) (int, bool) {
	if !hasPage(MaxPages, page) {
		return 0, false
	}
	return (page + 1) / 2, true
}

// PagesOfLeaf returns both pages of a leaf.
func PagesOfLeaf(leaf int) (int, int, bool) {
	if !isLeaf(leaf) {
		return 0, 0, false
	}
	return 2*leaf - 1, 2 * leaf, true
}

// BackOfPage returns the other page of the same leaf.
func BackOfPage(page int) (int, bool) {
	if !hasPage(MaxPages, page) {
		return 0, false
	}
	if isOdd(page) {
		return page + 1, true
	}
	return page - 1, true
}

// FacingPage returns the page of a book that faces a page. It fails if there is none.
func FacingPage(pages int, page int) (int, bool) {
	if !isBook(pages) || !hasPage(pages, page) {
		return 0, false
	}
	facing := page + 1
	if isOdd(page) {
		facing = page - 1
	}
	if !hasPage(pages, facing) {
		return 0, false
	}
	return facing, true
}

// LeavesOfBook returns how many leaves a book has.
func LeavesOfBook(pages int) (int, bool) {
	if !isBook(pages) {
		return 0, false
	}
	return (pages + 1) / 2, true
}

// DigitsOfBook returns how many digits all page numbers of a book have together.
func DigitsOfBook(pages int) (int, bool) {
	if !isBook(pages) {
		return 0, false
	}
	digits := 0
	for _, counts := range countsByLength(pages) {
		for _, used := range counts {
			digits += used
		}
	}
	return digits, true
}

// PagesForDigits returns how many pages a book has whose numbers have just so many digits, 1..MaxDigitsUsed. It fails if there is none.
func PagesForDigits(digits int) (int, bool) {
	if digits < 1 || digits > MaxDigitsUsed {
		return 0, false
	}
	pages, used := 0, 0
	for used < digits {
		pages++
		used += len(strconv.Itoa(pages))
	}
	if used != digits {
		return 0, false
	}
	return pages, true
}

// DigitAtPlace returns the digit at a place, 1..MaxDigitsUsed, of all page numbers of a book of MaxPages pages, one behind the other, and the page that it belongs to.
func DigitAtPlace(place int) (int, int, bool) {
	if place < 1 || place > MaxDigitsUsed {
		return 0, 0, false
	}
	page := 1
	number := "1"
	for place > len(number) {
		place -= len(number)
		page++
		number = strconv.Itoa(page)
	}
	return int(number[place-1] - '0'), page, true
}

// CountDigit returns how often a digit, 0..9, is in all page numbers of a book.
func CountDigit(pages int, digit int) (int, bool) {
	if !isBook(pages) || !isDigit(digit) {
		return 0, false
	}
	used := 0
	for _, counts := range countsByLength(pages) {
		used += counts[digit]
	}
	return used, true
}

// PagesWithDigit returns how many page numbers have it.
func PagesWithDigit(pages int, digit int) (int, bool) {
	if !isBook(pages) || !isDigit(digit) {
		return 0, false
	}
	many := 0
	for page := 1; page <= pages; page++ {
		if countsBetween(page, page)[digit] > 0 {
			many++
		}
	}
	return many, true
}

// PagesForTypes returns the greatest number of pages, up to MaxPages, that can be numbered with just so many types of a digit, many in 0..MaxPages, and as many of all others as are needed. It fails if that is no book: not even one page.
func PagesForTypes(digit int, many int) (int, bool) {
	if !isDigit(digit) || many < 0 || many > MaxPages {
		return 0, false
	}
	pages := 0
	for pages < MaxPages {
		// Types that are left over do no harm, so only a lack of them ends the book.
		many -= countsBetween(pages+1, pages+1)[digit]
		if many < 0 {
			break
		}
		pages++
	}
	return pages, pages > 0
}

// SumOfPages returns the sum of all page numbers.
func SumOfPages(pages int) (int, bool) {
	if !isBook(pages) {
		return 0, false
	}
	return sumUpTo(pages), true
}

// SumOfLeaf returns the sum of both numbers of a leaf.
func SumOfLeaf(leaf int) (int, bool) {
	if !isLeaf(leaf) {
		return 0, false
	}
	return leafSum(leaf), true
}

// TornLeaf returns the leaf that is torn out of a book if the numbers that are left have a sum, at least 0. It fails if there is none.
func TornLeaf(pages int, sum int) (int, bool) {
	if !isBook(pages) || sum < 0 {
		return 0, false
	}
	return leafWithSum(pages, sumUpTo(pages)-sum)
}

// TornFromSum returns the pages of the book with the fewest pages, and the leaf that is torn out of it, if the numbers that are left have a sum, 1..MaxPages times MaxPages. It fails if there is none.
func TornFromSum(sum int) (int, int, bool) {
	if sum < 1 || sum > maxSum {
		return 0, 0, false
	}
	book, torn := 0, 0
search:
	for pages := 1; pages <= MaxPages; pages++ {
		lacking := sumUpTo(pages) - sum
		leaf, found := leafWithSum(pages, lacking)
		switch {
		case found:
			book, torn = pages, leaf
			break search
		case lacking > 2*pages:
			// A further page adds at least as much to what lacks as to what a leaf can have.
			break search
		}
	}
	return book, torn, book > 0
}

// CountTornTwo returns how many pairs of leaves, both torn out of a book, leave a sum, 0..MaxPages times MaxPages.
func CountTornTwo(pages int, sum int) (int, bool) {
	if !isBook(pages) || sum < 0 || sum > maxSum {
		return 0, false
	}
	many, _, _ := tornPairs(pages, sum)
	return many, true
}

// FirstTornTwo returns the first one of these pairs: the lesser leaf, which is as small as can be, and the other one. It fails if there is none.
func FirstTornTwo(pages int, sum int) (int, int, bool) {
	if !isBook(pages) || sum < 0 || sum > maxSum {
		return 0, 0, false
	}
	many, lesser, greater := tornPairs(pages, sum)
	return lesser, greater, many > 0
}

// CanBeTorn reports whether so many leaves, 1..MaxTorn, different ones of a book of MaxPages pages, can have numbers with just a sum, 0..MaxPages times MaxPages, together.
func CanBeTorn(sum int, leaves int) (bool, bool) {
	if sum < 0 || sum > maxSum || leaves < 1 || leaves > MaxTorn {
		return false, false
	}
	least, greatest := 0, 0
	for k := range leaves {
		least += leafSum(1 + k)
		greatest += leafSum(maxLeaves - k)
	}
	// From the least leaves to the greatest ones, one leaf at a time can be
	// replaced by the next one, which adds 4: no such step is left out.
	return sum >= least && sum <= greatest && (sum-least)%4 == 0, true
}

// PagesText returns page numbers, an increasing list of 1..20 pages, with - between the first and the last one of each three or more one after the other, and , between others.
func PagesText(pages []int) (string, bool) {
	if !isPageList(pages) {
		return "", false
	}
	var parts []string
	for start := 0; start < len(pages); {
		run := runLength(pages[start:])
		if run < leastRun {
			parts = append(parts, strconv.Itoa(pages[start]))
			start++
			continue
		}
		last := pages[start+run-1]
		parts = append(parts, strconv.Itoa(pages[start])+"-"+strconv.Itoa(last))
		start += run
	}
	return strings.Join(parts, ","), true
}

// ParsePages returns the pages with a PagesText. It fails if there are none.
func ParsePages(s string) ([]int, bool) {
	if len(s) > maxListText {
		return nil, false
	}
	var pages []int
	for _, part := range strings.Split(s, ",") {
		first, last, ok := parseRun(part)
		if !ok {
			return nil, false
		}
		for page := first; page <= last; page++ {
			pages = append(pages, page)
		}
	}
	// Superfluous zeros, runs in disorder and the like are read above, but no PagesText has them.
	if text, ok := PagesText(pages); !ok || text != s {
		return nil, false
	}
	return pages, true
}

func isBook(pages int) bool {
	return pages >= 1 && pages <= MaxPages
}

func hasPage(pages int, page int) bool {
	return page >= 1 && page <= pages
}

func isLeaf(leaf int) bool {
	return leaf >= 1 && leaf <= maxLeaves
}

func isDigit(digit int) bool {
	return digit >= 0 && digit <= 9
}

func isOdd(page int) bool {
	return page%2 == 1
}

// countsByLength keeps apart the page numbers of one, two, .. digits, each under the first of them.
func countsByLength(pages int) map[int]digitCounts {
	counts := map[int]digitCounts{}
	for first := 1; first <= pages; first *= 10 {
		counts[first] = countsBetween(first, min(pages, 10*first-1))
	}
	return counts
}

func countsBetween(first int, last int) digitCounts {
	var counts digitCounts
	for page := first; page <= last; page++ {
		for rest := page; rest > 0; rest /= 10 {
			counts[rest%10]++
		}
	}
	return counts
}

func sumUpTo(pages int) int {
	return pages * (pages + 1) / 2
}

func leafSum(leaf int) int {
	return 4*leaf - 1
}

// leafWithSum looks only for a leaf with two numbers in the book, as no other one is torn.
func leafWithSum(pages int, sum int) (int, bool) {
	leaf := sum/4 + 1
	if leaf < 1 || leaf > pages/2 || leafSum(leaf) != sum {
		return 0, false
	}
	return leaf, true
}

func tornPairs(pages int, sum int) (many int, lesser int, greater int) {
	lacking := sumUpTo(pages) - sum
	for leaf := 1; leaf <= pages/2; leaf++ {
		other, found := leafWithSum(pages, lacking-leafSum(leaf))
		if !found || other <= leaf {
			continue
		}
		if many == 0 {
			lesser, greater = leaf, other
		}
		many++
	}
	return many, lesser, greater
}

func isPageList(pages []int) bool {
	return len(pages) >= 1 && len(pages) <= maxListed && areIncreasing(pages, MaxPages)
}

func areIncreasing(pages []int, most int) bool {
	before := 0
	for _, page := range pages {
		if page <= before || page > most {
			return false
		}
		before = page
	}
	return true
}

func runLength(pages []int) int {
	run := 1
	for run < len(pages) && pages[run] == pages[0]+run {
		run++
	}
	return run
}

func parseRun(part string) (first int, last int, ok bool) {
	from, to, isRun := strings.Cut(part, "-")
	if !isRun {
		to = from
	}
	first, okFirst := parsePage(from)
	last, okLast := parsePage(to)
	return first, last, okFirst && okLast
}

func parsePage(number string) (int, bool) {
	page, err := strconv.Atoi(number)
	return page, err == nil && hasPage(MaxPages, page)
}
