package tests

import (
	"strconv"
	"strings"
	"testing"

	"loop.example/g01394/impl"
)

// edgeBooks has books of a single page, of odd and even numbers of pages, and those beside a change of the length of numbers.
func edgeBooks() []int {
	return []int{1, 2, 3, 4, 9, 10, 11, 12, 99, 100, 101, 999, 1000, 1001, 1998, 1999, 2000}
}

func TestPageExample(t *testing.T) {
	leaves, ok := impl.LeavesOfBook(100)
	expect(t, "LeavesOfBook 100", got(leaves, ok), got(50, true))
	digits, ok := impl.DigitsOfBook(100)
	expect(t, "DigitsOfBook 100", got(digits, ok), got(192, true))
	pages, ok := impl.PagesForDigits(192)
	expect(t, "PagesForDigits 192", got(pages, ok), got(100, true))
	pages, ok = impl.PagesForDigits(190)
	expect(t, "PagesForDigits 190", got(pages, ok), got(0, false))
	count, ok := impl.CountDigit(100, 1)
	expect(t, "CountDigit 100 1", got(count, ok), got(21, true))
	count, ok = impl.PagesWithDigit(100, 1)
	expect(t, "PagesWithDigit 100 1", got(count, ok), got(20, true))
	digit, page, ok := impl.DigitAtPlace(15)
	expect(t, "DigitAtPlace 15", got(digit, page, ok), got(2, 12, true))
	pages, ok = impl.PagesForTypes(1, 21)
	expect(t, "PagesForTypes 1 21", got(pages, ok), got(100, true))
}

func TestTornExample(t *testing.T) {
	sum, ok := impl.SumOfPages(100)
	expect(t, "SumOfPages 100", got(sum, ok), got(5050, true))
	leaf, ok := impl.TornLeaf(100, 4999)
	expect(t, "TornLeaf 100 4999", got(leaf, ok), got(13, true))
	front, back, ok := impl.PagesOfLeaf(13)
	expect(t, "PagesOfLeaf 13", got(front, back, ok), got(25, 26, true))
	pages, leaf, ok := impl.TornFromSum(4999)
	expect(t, "TornFromSum 4999", got(pages, leaf, ok), got(100, 13, true))
	lesser, greater, ok := impl.FirstTornTwo(10, 41)
	expect(t, "FirstTornTwo 10 41", got(lesser, greater, ok), got(1, 3, true))
	many, ok := impl.CountTornTwo(10, 41)
	expect(t, "CountTornTwo 10 41", got(many, ok), got(1, true))
	can, ok := impl.CanBeTorn(14, 2)
	expect(t, "CanBeTorn 14 2", got(can, ok), got(true, true))
	text, ok := impl.PagesText([]int{3, 4, 5, 8, 9})
	expect(t, "PagesText", got(text, ok), got("3-5,8,9", true))
	list, ok := impl.ParsePages("3-5,8,9")
	expect(t, "ParsePages", got(list, ok), got([]int{3, 4, 5, 8, 9}, true))
}

func TestIsPage(t *testing.T) {
	for _, pages := range edgeBooks() {
		for _, page := range append(anyNumbers(), 1, 2, pages-1, pages, pages+1) {
			is, ok := impl.IsPage(pages, page)
			expect(t, call("IsPage", pages, page), got(is, ok), got(1 <= page && page <= pages, true))
		}
	}
}

func TestPagesOnLeaves(t *testing.T) {
	for page := 1; page <= impl.MaxPages; page += 2 {
		leaf := page/2 + 1
		right, ok := impl.IsRightPage(page)
		expect(t, call("IsRightPage", page), got(right, ok), got(true, true))
		right, ok = impl.IsRightPage(page + 1)
		expect(t, call("IsRightPage", page+1), got(right, ok), got(false, true))
		front, back, ok := impl.PagesOfLeaf(leaf)
		expect(t, call("PagesOfLeaf", leaf), got(front, back, ok), got(page, page+1, true))
		sum, ok := impl.SumOfLeaf(leaf)
		expect(t, call("SumOfLeaf", leaf), got(sum, ok), got(page+page+1, true))
		for _, side := range []int{page, page + 1} {
			of, ok := impl.LeafOfPage(side)
			expect(t, call("LeafOfPage", side), got(of, ok), got(leaf, true))
			other, ok := impl.BackOfPage(side)
			expect(t, call("BackOfPage", side), got(other, ok), got(page+page+1-side, true))
		}
	}
}

func TestFacingPage(t *testing.T) {
	for _, pages := range edgeBooks() {
		want := make([]int, pages+1)
		for even := 2; even < pages; even += 2 {
			want[even], want[even+1] = even+1, even
		}
		for page := 1; page <= pages; page++ {
			facing, ok := impl.FacingPage(pages, page)
			expect(t, call("FacingPage", pages, page), got(facing, ok), got(want[page], want[page] > 0))
		}
	}
}

func TestWholeBooks(t *testing.T) {
	numbers, sum := "", 0
	lengths := map[int]int{}
	for pages := 1; pages <= impl.MaxPages; pages++ {
		numbers += strconv.Itoa(pages)
		sum += pages
		lengths[len(numbers)] = pages
		of, ok := impl.LeavesOfBook(pages)
		expect(t, call("LeavesOfBook", pages), got(of, ok), got(pages/2+pages%2, true))
		digits, ok := impl.DigitsOfBook(pages)
		expect(t, call("DigitsOfBook", pages), got(digits, ok), got(len(numbers), true))
		all, ok := impl.SumOfPages(pages)
		expect(t, call("SumOfPages", pages), got(all, ok), got(sum, true))
	}
	expect(t, "MaxDigitsUsed", impl.MaxDigitsUsed, len(numbers))
	for digits := 1; digits <= impl.MaxDigitsUsed; digits++ {
		pages, ok := impl.PagesForDigits(digits)
		expect(t, call("PagesForDigits", digits), got(pages, ok), got(lengths[digits], lengths[digits] > 0))
	}
}

func TestDigitAtPlace(t *testing.T) {
	place := 0
	for page := 1; page <= impl.MaxPages; page++ {
		for _, sign := range strconv.Itoa(page) {
			place++
			digit, at, ok := impl.DigitAtPlace(place)
			expect(t, call("DigitAtPlace", place), got(digit, at, ok), got(int(sign-'0'), page, true))
		}
	}
	expect(t, "the last place", place, impl.MaxDigitsUsed)
}

func TestDigitsInPages(t *testing.T) {
	for digit := 0; digit <= 9; digit++ {
		used, with := 0, 0
		for pages := 1; pages <= impl.MaxPages; pages++ {
			here := strings.Count(strconv.Itoa(pages), strconv.Itoa(digit))
			used += here
			with += min(here, 1)
			count, ok := impl.CountDigit(pages, digit)
			expect(t, call("CountDigit", pages, digit), got(count, ok), got(used, true))
			count, ok = impl.PagesWithDigit(pages, digit)
			expect(t, call("PagesWithDigit", pages, digit), got(count, ok), got(with, true))
		}
	}
}

func TestPagesForTypes(t *testing.T) {
	for digit := 0; digit <= 9; digit++ {
		pages, used := 0, 0
		for many := 0; many <= impl.MaxPages; many++ {
			for pages < impl.MaxPages {
				here := strings.Count(strconv.Itoa(pages+1), strconv.Itoa(digit))
				if used+here > many {
					break
				}
				used += here
				pages++
			}
			most, ok := impl.PagesForTypes(digit, many)
			expect(t, call("PagesForTypes", digit, many), got(most, ok), got(pages, pages > 0))
		}
	}
}

func TestPagesForTypesAtItsEnds(t *testing.T) {
	for _, c := range []struct {
		digit, many, pages int
		ok                 bool
	}{
		{1, 0, 0, false},
		{0, 0, 9, true},
		{9, 0, 8, true},
		{1, 1, 9, true},
		{1, 22, 100, true},
		{0, impl.MaxPages, impl.MaxPages, true},
		{1, impl.MaxPages, impl.MaxPages, true},
	} {
		pages, ok := impl.PagesForTypes(c.digit, c.many)
		expect(t, call("PagesForTypes", c.digit, c.many), got(pages, ok), got(c.pages, c.ok))
	}
}

func TestTornLeaf(t *testing.T) {
	for _, pages := range append(edgeBooks(), 5, 6, 7, 30, 31) {
		all := pages * (pages + 1) / 2
		want := map[int]int{}
		for leaf := 1; 2*leaf <= pages; leaf++ {
			want[all-(2*leaf-1)-2*leaf] = leaf
		}
		for sum := max(0, all-2*pages-9); sum <= all+9; sum++ {
			leaf, ok := impl.TornLeaf(pages, sum)
			expect(t, call("TornLeaf", pages, sum), got(leaf, ok), got(want[sum], want[sum] > 0))
		}
	}
}

func TestTornLeafAtTheEndsOfSums(t *testing.T) {
	for _, c := range []struct {
		pages, sum, leaf int
		ok               bool
	}{
		{1, 0, 0, false},
		{1, 1, 0, false},
		{2, 0, 1, true},
		{2, 3, 0, false},
		{3, 3, 1, true},
		{3, 0, 0, false},
		{2000, 2001000 - 3, 1, true},
		{2000, 2001000 - 3999, 1000, true},
		{1999, 1999000 - 3995, 999, true},
		{1999, 1999000 - 1999, 500, true},
		{1999, 1999000 - 3999, 0, false},
		{2000, impl.MaxPages * impl.MaxPages, 0, false},
		{2000, impl.MaxPages*impl.MaxPages + 1, 0, false},
		{2000, 1<<63 - 1, 0, false},
	} {
		leaf, ok := impl.TornLeaf(c.pages, c.sum)
		expect(t, call("TornLeaf", c.pages, c.sum), got(leaf, ok), got(c.leaf, c.ok))
	}
}

func TestTornFromSum(t *testing.T) {
	const most = impl.MaxPages * impl.MaxPages
	books := make([][2]int, most+1)
	for pages := impl.MaxPages; pages >= 2; pages-- {
		for leaf := 1; 2*leaf <= pages; leaf++ {
			books[pages*(pages+1)/2-4*leaf+1] = [2]int{pages, leaf}
		}
	}
	for sum := 1; sum <= most; sum++ {
		if sum > 6000 && sum < 1990000 && sum%997 > 0 || sum > 2003000 && sum < most-10 {
			continue
		}
		pages, leaf, ok := impl.TornFromSum(sum)
		want := books[sum]
		expect(t, call("TornFromSum", sum), got(pages, leaf, ok), got(want[0], want[1], want[0] > 0))
	}
}

func TestTornTwo(t *testing.T) {
	for _, pages := range []int{1, 2, 3, 4, 5, 6, 7, 8, 9, 10, 11, 20, 41, 150, 1999, 2000} {
		all := pages * (pages + 1) / 2
		many, first := map[int]int{}, map[int][2]int{}
		for a := pages / 2; a >= 1; a-- {
			for b := pages / 2; b > a; b-- {
				sum := all - (4*a - 1) - (4*b - 1)
				many[sum]++
				first[sum] = [2]int{a, b}
			}
		}
		for sum := max(0, all-4*pages-9); sum <= all+9; sum++ {
			count, ok := impl.CountTornTwo(pages, sum)
			expect(t, call("CountTornTwo", pages, sum), got(count, ok), got(many[sum], true))
			a, b, ok := impl.FirstTornTwo(pages, sum)
			expect(t, call("FirstTornTwo", pages, sum), got(a, b, ok), got(first[sum][0], first[sum][1], many[sum] > 0))
		}
	}
}

func TestTornTwoAtTheEndsOfSums(t *testing.T) {
	const most = impl.MaxPages * impl.MaxPages
	for _, c := range []struct{ pages, sum, many, lesser, greater int }{
		{1, 0, 0, 0, 0},
		{1, 1, 0, 0, 0},
		{1, most, 0, 0, 0},
		{3, 0, 0, 0, 0},
		{4, 0, 1, 1, 2},
		{5, 5, 1, 1, 2},
		{4, most, 0, 0, 0},
		{2000, 0, 0, 0, 0},
		{2000, 2001000 - 10, 1, 1, 2},
		{2000, 2001000 - 7994, 1, 999, 1000},
		{2000, most, 0, 0, 0},
	} {
		many, ok := impl.CountTornTwo(c.pages, c.sum)
		expect(t, call("CountTornTwo", c.pages, c.sum), got(many, ok), got(c.many, true))
		a, b, ok := impl.FirstTornTwo(c.pages, c.sum)
		expect(t, call("FirstTornTwo", c.pages, c.sum), got(a, b, ok), got(c.lesser, c.greater, c.many > 0))
	}
}

func TestCanBeTorn(t *testing.T) {
	const most = impl.MaxPages * impl.MaxPages
	var reached [impl.MaxTorn + 1][13000]bool
	reached[0][0] = true
	for front := 1; front < impl.MaxPages; front += 2 {
		numbers := front + front + 1
		for leaves := impl.MaxTorn; leaves >= 1; leaves-- {
			for sum := numbers; sum < 13000; sum++ {
				reached[leaves][sum] = reached[leaves][sum] || reached[leaves-1][sum-numbers]
			}
		}
	}
	for leaves := 1; leaves <= impl.MaxTorn; leaves++ {
		for sum := range 13000 {
			can, ok := impl.CanBeTorn(sum, leaves)
			expect(t, call("CanBeTorn", sum, leaves), got(can, ok), got(reached[leaves][sum], true))
		}
		for sum := most - 4; sum <= most; sum++ {
			can, ok := impl.CanBeTorn(sum, leaves)
			expect(t, call("CanBeTorn", sum, leaves), got(can, ok), got(false, true))
		}
	}
}

func pageTexts() map[string][]int {
	return map[string][]int{
		"1":                   {1},
		"2000":                {2000},
		"1,2":                 {1, 2},
		"1-3":                 {1, 2, 3},
		"1,3":                 {1, 3},
		"1,3,5":               {1, 3, 5},
		"8-11":                {8, 9, 10, 11},
		"9,10":                {9, 10},
		"1,2,4-6,8,9":         {1, 2, 4, 5, 6, 8, 9},
		"1-3,5-7":             {1, 2, 3, 5, 6, 7},
		"98-101,1000":         {98, 99, 100, 101, 1000},
		"1998-2000":           {1998, 1999, 2000},
		"1,1999,2000":         {1, 1999, 2000},
		"3-22":                {3, 4, 5, 6, 7, 8, 9, 10, 11, 12, 13, 14, 15, 16, 17, 18, 19, 20, 21, 22},
		"1-10,1991-2000":      {1, 2, 3, 4, 5, 6, 7, 8, 9, 10, 1991, 1992, 1993, 1994, 1995, 1996, 1997, 1998, 1999, 2000},
		"1,3,5,7,9,11,13,15":  {1, 3, 5, 7, 9, 11, 13, 15},
		"10-12,20,21,100-103": {10, 11, 12, 20, 21, 100, 101, 102, 103},
	}
}

func TestPagesText(t *testing.T) {
	for want, pages := range pageTexts() {
		text, ok := impl.PagesText(pages)
		expect(t, call("PagesText", pages), got(text, ok), got(want, true))
		list, ok := impl.ParsePages(want)
		expect(t, call("ParsePages", want), got(list, ok), got(pages, true))
	}
}

// plainPagesText marks the pages inside a run, which both neighbours are beside, and leaves them out.
func plainPagesText(pages []int) string {
	text := ""
	for k, page := range pages {
		inside := k > 0 && k+1 < len(pages) && pages[k-1] == page-1 && pages[k+1] == page+1
		switch {
		case k == 0:
		case inside && !strings.HasSuffix(text, "-"):
			text += "-"
		case !inside && !strings.HasSuffix(text, "-"):
			text += ","
		}
		if !inside {
			text += strconv.Itoa(page)
		}
	}
	return text
}

func TestPagesTextOfManyLists(t *testing.T) {
	for _, before := range []int{0, 5, 95, 994, impl.MaxPages - 11} {
		for chosen := 1; chosen < 1<<11; chosen++ {
			var pages []int
			for k := range 11 {
				if chosen>>k&1 == 1 {
					pages = append(pages, before+k+1)
				}
			}
			want := plainPagesText(pages)
			text, ok := impl.PagesText(pages)
			expect(t, call("PagesText", pages), got(text, ok), got(want, true))
			list, ok := impl.ParsePages(want)
			expect(t, call("ParsePages", want), got(list, ok), got(pages, true))
		}
	}
}

func TestLongestPagesText(t *testing.T) {
	var pages []int
	for page := 1000; len(pages) < 20; page += 2 {
		pages = append(pages, page)
	}
	text, ok := impl.PagesText(pages)
	expect(t, "PagesText of 20 pages", got(len(text), ok), got(99, true))
	list, ok := impl.ParsePages(text)
	expect(t, call("ParsePages", text), got(list, ok), got(pages, true))
	list, ok = impl.ParsePages(text + ",2000")
	expect(t, "ParsePages of 21 pages", got(list, ok), got([]int(nil), false))
}

func TestInvalidPageLists(t *testing.T) {
	many := make([]int, 21)
	for k := range many {
		many[k] = k + 1
	}
	for _, pages := range [][]int{
		nil, {}, many, {0}, {-1}, {2001}, {1, 1}, {2, 1}, {0, 1}, {1, 2, 2}, {1, 5, 4}, {1999, 2000, 2001},
		{-1 << 63}, {1<<63 - 1}, {1, 1<<63 - 1}, {1<<63 - 1, -1 << 63},
	} {
		text, ok := impl.PagesText(pages)
		expect(t, call("PagesText", pages), got(text, ok), got("", false))
	}
}

func TestTextsOfNoPages(t *testing.T) {
	for _, text := range []string{
		"", " ", ",", "-", "a", "0", "01", "+1", "-1", "2001", "1,", ",1", "1,,2", "1-", "-3", "1--3", "1-2-3", "1-3-",
		"1-2", "1-1", "3-1", "1,2,3", "1-3,4", "1,2-4", "1-3,4-6", "1,1", "2,1", "5,1-3", "1-3,2", "1-3,3", "4,3-1", "1,3-2",
		"1 ,3", "1, 3", "1-3 ", " 1-3", "1-03", "01-3", "1-+3", "1_0", "1e1", "0x1", "1.0", "1;3", "1-21", "1-2000", "0-2", "1999-2001",
		"9223372036854775807", "9223372036854775808", "9223372036854775805-9223372036854775807", "1-9223372036854775807",
		"\x00", "1\n", "１", "1–3", "\xff", strings.Repeat("1,", 5000), strings.Repeat("1-2000,", 5000), strings.Repeat("9", 5000),
	} {
		pages, ok := impl.ParsePages(text)
		expect(t, call("ParsePages", text), got(pages, ok), got([]int(nil), false))
	}
}

func TestParsedTextsAreTheirOwn(t *testing.T) {
	texts := []string{""}
	parsed := 0
	for range 6 {
		var longer []string
		for _, text := range texts {
			for _, sign := range "0125-," {
				longer = append(longer, text+string(sign))
			}
		}
		texts = longer
		for _, text := range texts {
			pages, ok := impl.ParsePages(text)
			if !ok {
				expect(t, call("ParsePages", text), got(pages, ok), got([]int(nil), false))
				continue
			}
			parsed++
			expect(t, call("PagesText", pages), plainPagesText(pages), text)
		}
	}
	if parsed < 1000 {
		t.Error("only", parsed, "texts were read")
	}
}

func TestPagesKeepTheirMemory(t *testing.T) {
	room := []int{3, 4, 5, 8, 9, 10, 11}
	text, ok := impl.PagesText(room[:4])
	expect(t, "PagesText", got(text, ok), got("3-5,8", true))
	expect(t, "the room of its argument", room, []int{3, 4, 5, 8, 9, 10, 11})
	first, _ := impl.ParsePages("3-5,8")
	second, _ := impl.ParsePages("3-5,8")
	first[0] = 99
	expect(t, "a second result", second, []int{3, 4, 5, 8})
}
