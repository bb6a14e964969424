package tests

import (
	"testing"

	"loop.example/g01394/impl"
)

func sumOfPlan(plan []int) int {
	sum := 0
	for _, pages := range plan {
		sum += pages
	}
	return sum
}

func TestPlanExample(t *testing.T) {
	daily, ok := impl.DailyFor(200, 10, 7)
	expect(t, "DailyFor", got(daily, ok), got(28, true))
	plan, ok := impl.EvenPlan(200, 10, 7)
	expect(t, "EvenPlan", got(plan, ok), got([]int{28, 27, 27, 27, 27, 27, 27}, true))
	plan, ok = impl.RisingPlan(100, 10, 5)
	expect(t, "RisingPlan", got(plan, ok), got([]int{10, 15, 20, 25, 30}, true))
	plan, ok = impl.PartPlan(100, 1, 2)
	expect(t, "PartPlan", got(plan, ok), got([]int{50, 25, 13, 6, 3, 2, 1}, true))
	days, ok := impl.DaysOfParts(100, 1, 2)
	expect(t, "DaysOfParts", got(days, ok), got(7, true))
	pages, ok := impl.AfterParts(1, [][]int{{1, 2}, {1, 2}}, []int{1, 1})
	expect(t, "AfterParts", got(pages, ok), got(10, true))
}

// someMarks has marks in a book from its beginning to its end.
func someMarks(pages int) []int {
	marks := []int{0}
	for _, mark := range []int{1, pages / 3, pages / 2, pages - 1, pages} {
		if mark > marks[len(marks)-1] {
			marks = append(marks, mark)
		}
	}
	return marks
}

// plainDailyFor tries all numbers, the least one first: with more pages on each day a book is read earlier.
func plainDailyFor(left, days int) (int, bool) {
	daily := 0
	for daily*days < left {
		daily++
	}
	if daily < 1 || daily > impl.MaxDaily {
		return 0, false
	}
	return daily, true
}

func TestDailyFor(t *testing.T) {
	for _, pages := range edgeBooks() {
		for _, mark := range someMarks(pages) {
			for _, days := range someDays() {
				n, ok := impl.DailyFor(pages, mark, days)
				want, can := plainDailyFor(pages-mark, days)
				expect(t, call("DailyFor", pages, mark, days), got(n, ok), got(want, can))
			}
		}
	}
}

func TestDailyForAtItsEnds(t *testing.T) {
	for _, c := range []struct {
		pages, mark, days, daily int
		ok                       bool
	}{
		{200, 0, 1, 200, true}, {201, 0, 1, 0, false}, {201, 1, 1, 200, true}, {2000, 0, 10, 200, true}, {2000, 0, 9, 0, false}, {2000, 200, 9, 200, true}, {2000, 199, 9, 0, false},
		{1, 0, 3000, 1, true}, {2000, 0, 3000, 1, true}, {2000, 0, 2000, 1, true}, {2000, 0, 1999, 2, true}, {2000, 1999, 1, 1, true},
		// If all is read no pages are the least number, and these are none in 1..MaxDaily.
		{1, 1, 1, 0, false}, {200, 200, 7, 0, false}, {2000, 2000, 3000, 0, false},
	} {
		n, ok := impl.DailyFor(c.pages, c.mark, c.days)
		expect(t, call("DailyFor", c.pages, c.mark, c.days), got(n, ok), got(c.daily, c.ok))
	}
}

// TestDailyIsRead reads a book by the number that is returned, and by one page less.
func TestDailyIsRead(t *testing.T) {
	for _, c := range []struct{ pages, mark, days int }{{200, 10, 7}, {2000, 0, 10}, {100, 1, 98}, {100, 1, 99}, {100, 1, 100}, {1999, 1000, 333}} {
		daily, ok := impl.DailyFor(c.pages, c.mark, c.days)
		expect(t, call("DailyFor", c.pages, c.mark, c.days), ok, true)
		mark, ok := impl.MarkAfter(c.pages, reader(c.mark, daily, 0), c.days)
		expect(t, call("MarkAfter", c.pages, daily, c.days), got(mark, ok), got(c.pages, true))
		if mark, ok = impl.MarkAfter(c.pages, reader(c.mark, daily-1, 0), c.days); ok && mark == c.pages {
			t.Errorf("%d pages are enough for %v", daily-1, c)
		}
	}
}

func TestEvenPlan(t *testing.T) {
	for _, pages := range edgeBooks() {
		for _, mark := range someMarks(pages) {
			for _, days := range someDays() {
				plan, ok := impl.EvenPlan(pages, mark, days)
				// One more page is dealt to each day in turn, until none is left.
				want := make([]int, days)
				for k := range pages - mark {
					want[k%days]++
				}
				expect(t, call("EvenPlan", pages, mark, days), got(plan, ok), got(want, true))
			}
		}
	}
}

func TestEvenPlanByHand(t *testing.T) {
	for _, c := range []struct {
		pages, mark, days int
		want              []int
	}{{2000, 0, 1, []int{2000}}, {10, 0, 4, []int{3, 3, 2, 2}}, {10, 2, 4, []int{2, 2, 2, 2}}, {10, 8, 4, []int{1, 1, 0, 0}}, {10, 10, 3, []int{0, 0, 0}}, {2000, 2000, 1, []int{0}}, {1, 0, 2, []int{1, 0}}} {
		plan, ok := impl.EvenPlan(c.pages, c.mark, c.days)
		expect(t, call("EvenPlan", c.pages, c.mark, c.days), got(plan, ok), got(c.want, true))
	}
	plan, ok := impl.EvenPlan(2000, 0, impl.MaxDays)
	expect(t, "the longest EvenPlan", got(len(plan), sumOfPlan(plan), plan[1999], plan[2000], ok), got(3000, 2000, 1, 0, true))
}

// plainRising reads one page at a time, and begins a new day when the pages of a day are read.
func plainRising(pages, first, more int) []int {
	plan := []int{0}
	room := first
	for range pages {
		last := len(plan) - 1
		if plan[last] == room {
			plan = append(plan, 0)
			room += more
			last++
		}
		plan[last]++
	}
	return plan
}

func TestRisingPlan(t *testing.T) {
	for _, pages := range edgeBooks() {
		for _, first := range []int{1, 2, 3, 10, 99, 100, 199, 200} {
			for _, more := range []int{0, 1, 2, 5, 99, 199, 200} {
				plan, ok := impl.RisingPlan(pages, first, more)
				expect(t, call("RisingPlan", pages, first, more), got(plan, ok), got(plainRising(pages, first, more), true))
			}
		}
	}
}

func TestRisingPlanByHand(t *testing.T) {
	for _, c := range []struct {
		pages, first, more int
		want               []int
	}{{1, 1, 0, []int{1}}, {1, 200, 200, []int{1}}, {200, 200, 200, []int{200}}, {201, 200, 200, []int{200, 1}}, {100, 10, 6, []int{10, 16, 22, 28, 24}}, {5, 2, 0, []int{2, 2, 1}}, {2000, 200, 200, []int{200, 400, 600, 800}}, {2000, 199, 200, []int{199, 399, 599, 799, 4}}} {
		plan, ok := impl.RisingPlan(c.pages, c.first, c.more)
		expect(t, call("RisingPlan", c.pages, c.first, c.more), got(plan, ok), got(c.want, true))
	}
	plan, ok := impl.RisingPlan(2000, 1, 0)
	expect(t, "the longest RisingPlan", got(len(plan), sumOfPlan(plan), ok), got(2000, 2000, true))
}

// plainFirst looks for the first plan that is short enough.
func plainFirst(lengths []int, days int) (int, bool) {
	for first, length := range lengths {
		if first > 0 && length <= days {
			return first, true
		}
	}
	return 0, false
}

func TestFirstForRising(t *testing.T) {
	for _, pages := range []int{1, 2, 10, 100, 200, 201, 401, 1000, 1999, 2000} {
		for _, more := range []int{0, 1, 2, 5, 20, 199, 200} {
			lengths := []int{0}
			for first := 1; first <= impl.MaxDaily; first++ {
				lengths = append(lengths, len(plainRising(pages, first, more)))
			}
			for _, days := range someDays() {
				n, ok := impl.FirstForRising(pages, days, more)
				want, can := plainFirst(lengths, days)
				expect(t, call("FirstForRising", pages, days, more), got(n, ok), got(want, can))
			}
		}
	}
}

func TestFirstForRisingAtItsEnds(t *testing.T) {
	for _, c := range []struct {
		pages, days, more, first int
		ok                       bool
	}{
		{100, 5, 5, 10, true}, {101, 5, 5, 11, true}, {99, 5, 5, 10, true}, {95, 5, 5, 9, true}, {51, 5, 5, 1, true}, {55, 5, 5, 1, true}, {56, 5, 5, 2, true},
		{200, 1, 0, 200, true}, {200, 1, 200, 200, true}, {201, 1, 200, 0, false}, {600, 2, 200, 200, true}, {601, 2, 200, 0, false}, {2000, 10, 0, 200, true}, {2000, 9, 0, 0, false},
		{1, 1, 0, 1, true}, {1, 3000, 200, 1, true}, {2000, 3000, 0, 1, true}, {2000, 3000, 200, 1, true}, {2000, 1999, 0, 2, true},
	} {
		n, ok := impl.FirstForRising(c.pages, c.days, c.more)
		expect(t, call("FirstForRising", c.pages, c.days, c.more), got(n, ok), got(c.first, c.ok))
	}
}

// someFractions has fractions in lowest terms and others, and those at the limits.
func someFractions() [][]int {
	return [][]int{{1, 2}, {1, 3}, {2, 3}, {2, 4}, {3, 4}, {5, 6}, {7, 10}, {1, 199}, {1, 200}, {99, 200}, {100, 200}, {101, 200}, {198, 199}, {199, 200}, {2, 199}}
}

// plainParts takes single pages until no less than the part is taken.
func plainParts(pages, num, den int) []int {
	var plan []int
	for left := pages; left > 0; left -= plan[len(plan)-1] {
		read := 0
		for read*den < left*num {
			read++
		}
		plan = append(plan, read)
	}
	return plan
}

func TestPartPlan(t *testing.T) {
	for _, pages := range edgeBooks() {
		for _, part := range someFractions() {
			want := plainParts(pages, part[0], part[1])
			plan, ok := impl.PartPlan(pages, part[0], part[1])
			expect(t, call("PartPlan", pages, part), got(plan, ok), got(want, true))
			days, ok := impl.DaysOfParts(pages, part[0], part[1])
			expect(t, call("DaysOfParts", pages, part), got(days, ok), got(len(want), true))
		}
	}
}

func TestPartPlanByHand(t *testing.T) {
	for _, c := range []struct {
		pages, num, den int
		want            []int
	}{{1, 1, 200, []int{1}}, {1, 199, 200, []int{1}}, {2, 1, 2, []int{1, 1}}, {10, 2, 3, []int{7, 2, 1}}, {9, 2, 6, []int{3, 2, 2, 1, 1}}, {200, 199, 200, []int{199, 1}}, {201, 199, 200, []int{200, 1}}, {2000, 199, 200, []int{1990, 10}}} {
		plan, ok := impl.PartPlan(c.pages, c.num, c.den)
		expect(t, call("PartPlan", c.pages, c.num, c.den), got(plan, ok), got(c.want, true))
		days, ok := impl.DaysOfParts(c.pages, c.num, c.den)
		expect(t, call("DaysOfParts", c.pages, c.num, c.den), got(days, ok), got(len(c.want), true))
	}
}

// TestPlansHaveAllPages holds promise 3 for all books.
func TestPlansHaveAllPages(t *testing.T) {
	for pages := 1; pages <= impl.MaxPages; pages++ {
		mark := pages * 3 / 7
		even, ok := impl.EvenPlan(pages, mark, 1+pages*5%173)
		expect(t, call("the pages of EvenPlan", pages, mark), got(mark+sumOfPlan(even), ok), got(pages, true))
		rising, ok := impl.RisingPlan(pages, 1+pages*7%200, pages*11%201)
		expect(t, call("the pages of RisingPlan", pages), got(sumOfPlan(rising), ok), got(pages, true))
		den := 2 + pages*13%199
		parts, ok := impl.PartPlan(pages, 1+pages*17%(den-1), den)
		expect(t, call("the pages of PartPlan", pages), got(sumOfPlan(parts), ok), got(pages, true))
	}
}

// plainLeft reads, from the first day on; it fails if a part is no whole number, or if there are not as many pages.
func plainLeft(pages int, parts [][]int, more []int) (int, bool) {
	for k, part := range parts {
		if pages*part[0]%part[1] != 0 {
			return 0, false
		}
		pages -= pages * part[0] / part[1]
		pages -= more[k]
		if pages < 0 {
			return 0, false
		}
	}
	return pages, true
}

func TestAfterParts(t *testing.T) {
	fractions := someFractions()
	for k := range 120 {
		var parts [][]int
		var more []int
		for day := range k % 7 {
			parts = append(parts, fractions[(k+day*(1+k%5))%len(fractions)])
			more = append(more, []int{0, 1, 2, 5, 200}[(k+day*3)%5])
		}
		// With other numbers of pages at first other ones are left, so no two of them leave the same.
		before := map[int]int{}
		for pages := 0; pages <= impl.MaxPages; pages++ {
			if left, ok := plainLeft(pages, parts, more); ok {
				before[left] = pages
			}
		}
		for left := 0; left <= impl.MaxPages; left++ {
			pages, ok := impl.AfterParts(left, parts, more)
			want, can := before[left]
			expect(t, call("AfterParts", left, parts, more), got(pages, ok), got(want, can))
		}
	}
}

func TestAfterPartsByHand(t *testing.T) {
	half := []int{1, 2}
	for _, c := range []struct {
		left  int
		parts [][]int
		more  []int
		pages int
		ok    bool
	}{
		{0, nil, nil, 0, true}, {7, [][]int{}, []int{}, 7, true}, {2000, nil, nil, 2000, true},
		{0, [][]int{half}, []int{0}, 0, true}, {0, [][]int{half}, []int{1}, 2, true}, {5, [][]int{{2, 4}}, []int{0}, 10, true},
		{0, [][]int{half, half, half, half, half, half}, []int{1, 1, 1, 1, 1, 1}, 126, true}, {31, [][]int{half, half, half, half, half, half}, []int{0, 0, 0, 0, 0, 0}, 1984, true}, {32, [][]int{half, half, half, half, half, half}, []int{0, 0, 0, 0, 0, 0}, 0, false},
		// The parts are taken in turn: first a third, and 3 pages more, then a half, and 1 page more.
		{10, [][]int{{1, 3}, half}, []int{3, 1}, 0, false}, {9, [][]int{{1, 3}, half}, []int{4, 1}, 36, true}, {9, [][]int{half, {1, 3}}, []int{4, 1}, 38, true},
		// Twice as much as was left and read more has to be a multiple of 3.
		{1, [][]int{{1, 4}}, []int{0}, 0, false}, {3, [][]int{{1, 4}}, []int{0}, 4, true}, {2, [][]int{{1, 4}}, []int{1}, 4, true}, {4, [][]int{{2, 5}}, []int{0}, 0, false}, {6, [][]int{{2, 5}}, []int{0}, 10, true},
		{1000, [][]int{half}, []int{0}, 2000, true}, {999, [][]int{half}, []int{1}, 2000, true}, {1000, [][]int{half}, []int{1}, 0, false}, {1001, [][]int{half}, []int{0}, 0, false}, {800, [][]int{half}, []int{200}, 2000, true},
		{10, [][]int{{199, 200}}, []int{0}, 2000, true}, {11, [][]int{{199, 200}}, []int{0}, 0, false}, {1990, [][]int{{1, 200}}, []int{0}, 2000, true}, {2000, [][]int{{1, 200}}, []int{0}, 0, false}, {1791, [][]int{{1, 200}}, []int{199}, 2000, true},
		{2000, [][]int{{199, 200}, {199, 200}, {199, 200}, {199, 200}, {199, 200}, {199, 200}}, []int{200, 200, 200, 200, 200, 200}, 0, false},
	} {
		pages, ok := impl.AfterParts(c.left, c.parts, c.more)
		expect(t, call("AfterParts", c.left, c.parts, c.more), got(pages, ok), got(c.pages, c.ok))
	}
}

func TestPlansKeepTheirMemory(t *testing.T) {
	for name, list := range map[string]func() []int{
		"EvenPlan":   func() []int { l, _ := impl.EvenPlan(200, 10, 7); return l },
		"RisingPlan": func() []int { l, _ := impl.RisingPlan(100, 10, 5); return l },
		"PartPlan":   func() []int { l, _ := impl.PartPlan(100, 1, 2); return l },
	} {
		first := list()
		before := got(first)
		for k := range first {
			first[k] = -1
		}
		expect(t, "a second "+name, got(list()), before)
	}
	numbers, more := []int{1, 3, 1, 2, 9}, []int{4, 1, 9}
	parts := [][]int{numbers[:2], numbers[2:4], numbers[4:]}
	before := got(parts, numbers, more)
	pages, ok := impl.AfterParts(9, parts[:2], more[:2])
	expect(t, "AfterParts", got(pages, ok), got(36, true))
	expect(t, "the room of parts", got(parts, numbers, more), before)
}
