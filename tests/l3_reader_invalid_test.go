package tests

import (
	"math"
	"strings"
	"testing"

	"loop.example/g01394/impl"
)

// noReaders has readers with one number out of its bounds, and the others at theirs.
func noReaders() []impl.Reader {
	none := []impl.Reader{{}, reader(0, 1, 1), reader(2000, 200, 1), reader(math.MaxInt, math.MaxInt, math.MaxInt), reader(math.MinInt, math.MinInt, math.MinInt)}
	for _, n := range outside(0, impl.MaxPages) {
		none = append(none, reader(n, 1, 0), reader(n, 200, 60))
	}
	for _, n := range outside(1, impl.MaxDaily) {
		none = append(none, reader(0, n, 0), reader(2000, n, 2))
	}
	for _, n := range outside(0, 60) {
		none = append(none, reader(0, 1, n), reader(2000, 200, n))
	}
	return none
}

// anyReaders has readers with numbers of all kinds.
func anyReaders() []impl.Reader {
	readers := []impl.Reader{reader(0, 1, 2), reader(10, 20, 7), reader(2000, 200, 60)}
	for _, n := range anyNumbers() {
		readers = append(readers, reader(n, 1, 0), reader(0, n, 2), reader(0, 1, n), reader(n, n, n))
	}
	return readers
}

// failsForReader calls all functions of a reader in a book, alone, beside others and among others.
func failsForReader(t *testing.T, pages int, r impl.Reader) {
	t.Helper()
	good := reader(0, 1, 0)
	for _, day := range []int{0, 1, 7, impl.MaxDays} {
		wantZero(t, "MarkAfter", impl.MarkAfter, pages, r, day)
		for _, list := range [][]impl.Reader{{r}, {r, good}, {good, good, good, good, good, r}} {
			wantZero(t, "OrderOnDay", impl.OrderOnDay, pages, list, day)
			wantZero(t, "FirstAtEnd", impl.FirstAtEnd, pages, list)
		}
	}
	wantZero(t, "DaysToEnd", impl.DaysToEnd, pages, r)
	wantZero(t, "Meet", impl.Meet, pages, r, good)
	wantZero(t, "Meet", impl.Meet, pages, good, r)
	wantZero(t, "Meet", impl.Meet, pages, r, r)
}

func TestNoReaders(t *testing.T) {
	good := reader(0, 1, 0)
	for _, r := range noReaders() {
		failsForReader(t, impl.MaxPages, r)
		wantZero(t, "ReaderText", impl.ReaderText, r)
		for _, day := range []int{0, 1, 7, impl.MaxDays} {
			wantZero(t, "AheadOn", impl.AheadOn, r, good, day)
			wantZero(t, "AheadOn", impl.AheadOn, good, r, day)
			wantZero(t, "ReadOn", impl.ReadOn, r, day)
			wantZero(t, "TogetherPages", impl.TogetherPages, []impl.Reader{r}, day)
			wantZero(t, "TogetherPages", impl.TogetherPages, []impl.Reader{good, r}, day)
		}
		for _, page := range []int{1, 1000, impl.MaxPages} {
			wantZero(t, "DayOfPage", impl.DayOfPage, r, page)
		}
	}
}

func TestMarksBehindTheBook(t *testing.T) {
	for _, pages := range []int{1, 2, 100, 1999} {
		for _, mark := range []int{pages + 1, impl.MaxPages} {
			failsForReader(t, pages, reader(mark, 20, 0))
			failsForReader(t, pages, reader(mark, 1, 2))
		}
	}
}

func TestNoBooksOfReaders(t *testing.T) {
	for _, pages := range outside(1, impl.MaxPages) {
		for _, r := range []impl.Reader{reader(0, 1, 0), reader(0, 200, 60), reader(2000, 20, 7)} {
			failsForReader(t, pages, r)
		}
		for _, n := range []int{0, 1, 2, impl.MaxDaily} {
			for _, days := range []int{1, 10, impl.MaxDays} {
				wantZero(t, "DailyFor", impl.DailyFor, pages, n, days)
				wantZero(t, "EvenPlan", impl.EvenPlan, pages, n, days)
			}
			wantZero(t, "RisingPlan", impl.RisingPlan, pages, 1, n)
			wantZero(t, "FirstForRising", impl.FirstForRising, pages, 10, n)
			wantZero(t, "PartPlan", impl.PartPlan, pages, 1, 1+n)
			wantZero(t, "DaysOfParts", impl.DaysOfParts, pages, 1, 1+n)
		}
	}
}

func TestInvalidDays(t *testing.T) {
	r, other := reader(0, 1, 2), reader(5, 20, 7)
	for _, days := range outside(0, impl.MaxDays) {
		wantZero(t, "MarkAfter", impl.MarkAfter, 100, r, days)
		wantZero(t, "AheadOn", impl.AheadOn, r, other, days)
		wantZero(t, "OrderOnDay", impl.OrderOnDay, 100, []impl.Reader{r, other}, days)
	}
	for _, days := range append(outside(1, impl.MaxDays), 0) {
		wantZero(t, "ReadOn", impl.ReadOn, r, days)
		wantZero(t, "TogetherPages", impl.TogetherPages, []impl.Reader{r, other}, days)
		for _, mark := range []int{0, 50, 99, 100} {
			wantZero(t, "DailyFor", impl.DailyFor, 100, mark, days)
			wantZero(t, "EvenPlan", impl.EvenPlan, 100, mark, days)
		}
		for _, more := range []int{0, 1, impl.MaxDaily} {
			wantZero(t, "FirstForRising", impl.FirstForRising, 1, days, more)
		}
	}
}

func TestInvalidPagesOfReaders(t *testing.T) {
	for _, r := range []impl.Reader{reader(0, 1, 0), reader(10, 20, 7), reader(1999, 200, 2), reader(2000, 1, 60)} {
		for _, page := range append(outside(r.Mark+1, impl.MaxPages), 0, r.Mark) {
			wantZero(t, "DayOfPage", impl.DayOfPage, r, page)
		}
	}
}

func TestInvalidMarks(t *testing.T) {
	for _, pages := range []int{1, 100, 1999, impl.MaxPages} {
		for _, mark := range outside(0, pages) {
			for _, days := range []int{1, 7, impl.MaxDays} {
				wantZero(t, "DailyFor", impl.DailyFor, pages, mark, days)
				wantZero(t, "EvenPlan", impl.EvenPlan, pages, mark, days)
			}
		}
	}
}

func TestInvalidRisingPlans(t *testing.T) {
	for _, pages := range []int{1, 100, impl.MaxPages} {
		for _, first := range outside(1, impl.MaxDaily) {
			for _, more := range []int{0, 1, impl.MaxDaily} {
				wantZero(t, "RisingPlan", impl.RisingPlan, pages, first, more)
			}
		}
		for _, more := range outside(0, impl.MaxDaily) {
			for _, n := range []int{1, 10, impl.MaxDaily} {
				wantZero(t, "RisingPlan", impl.RisingPlan, pages, n, more)
				wantZero(t, "FirstForRising", impl.FirstForRising, pages, n, more)
			}
		}
	}
}

// noFractions has numbers of which one is out of its bounds, and those that are not less than 1.
func noFractions() [][]int {
	none := [][]int{{1, 1}, {2, 1}, {2, 2}, {200, 200}, {200, 199}, {0, 0}, {0, 1}, {0, 2}, {-1, 2}, {1, 0}, {-2, -1}, {1, -2}, {-1, -2}, {200, 201}, {1, 201}}
	for _, n := range outside(1, impl.MaxDaily) {
		none = append(none, []int{n, 2}, []int{n, 200}, []int{1, n}, []int{199, n}, []int{n, n})
	}
	return none
}

func TestInvalidFractions(t *testing.T) {
	for _, part := range noFractions() {
		for _, pages := range []int{1, 100, impl.MaxPages} {
			wantZero(t, "PartPlan", impl.PartPlan, pages, part[0], part[1])
			wantZero(t, "DaysOfParts", impl.DaysOfParts, pages, part[0], part[1])
		}
		for _, left := range []int{0, 1, 4, 100} {
			wantZero(t, "AfterParts", impl.AfterParts, left, [][]int{part}, []int{0})
			wantZero(t, "AfterParts", impl.AfterParts, left, [][]int{part, {1, 2}}, []int{0, 0})
			wantZero(t, "AfterParts", impl.AfterParts, left, [][]int{{1, 2}, part}, []int{0, 0})
		}
	}
}

func TestInvalidParts(t *testing.T) {
	half := []int{1, 2}
	for _, c := range []struct {
		parts [][]int
		more  []int
	}{
		{[][]int{half}, nil}, {nil, []int{0}}, {[][]int{half}, []int{0, 0}}, {[][]int{half, half}, []int{0}},
		{[][]int{nil}, []int{0}}, {[][]int{{}}, []int{0}}, {[][]int{{1}}, []int{0}}, {[][]int{{1, 2, 3}}, []int{0}}, {[][]int{half, {1, 2, 4}}, []int{0, 0}}, {[][]int{half, nil}, []int{0, 0}}, {[][]int{half, half[:1]}, []int{0, 0}},
		{[][]int{half, half, half, half, half, half, half}, []int{0, 0, 0, 0, 0, 0, 0}}, {[][]int{half, half, half, half, half, half, half}, []int{0, 0, 0, 0, 0, 0}},
		{nil, []int{0, 0, 0, 0, 0, 0, 0}}, {make([][]int, 7), make([]int, 7)}, {make([][]int, 100000), make([]int, 100000)},
	} {
		// As nothing is left, any number of days would leave nothing from nothing.
		for _, left := range []int{0, 1, 30} {
			wantZero(t, "AfterParts", impl.AfterParts, left, c.parts, c.more)
		}
	}
	for _, more := range outside(0, impl.MaxDaily) {
		for _, left := range []int{0, 1, 30, impl.MaxPages} {
			wantZero(t, "AfterParts", impl.AfterParts, left, [][]int{half}, []int{more})
			wantZero(t, "AfterParts", impl.AfterParts, left, [][]int{half, half}, []int{more, 0})
			wantZero(t, "AfterParts", impl.AfterParts, left, [][]int{half, half}, []int{0, more})
		}
	}
	for _, left := range outside(0, impl.MaxPages) {
		wantZero(t, "AfterParts", impl.AfterParts, left, [][]int{}, []int{})
		wantZero(t, "AfterParts", impl.AfterParts, left, [][]int{half}, []int{0})
		wantZero(t, "AfterParts", impl.AfterParts, left, [][]int{half}, []int{impl.MaxDaily})
	}
}

func TestListsOfNoReaders(t *testing.T) {
	good := reader(0, 1, 0)
	for _, list := range [][]impl.Reader{nil, {}, {good, good, good, good, good, good, good}, make([]impl.Reader, 100000)} {
		wantZero(t, "FirstAtEnd", impl.FirstAtEnd, 100, list)
		for _, day := range []int{0, 1, impl.MaxDays} {
			wantZero(t, "OrderOnDay", impl.OrderOnDay, 100, list, day)
			wantZero(t, "TogetherPages", impl.TogetherPages, list, day)
		}
	}
}

func TestTextsOfNoReaders(t *testing.T) {
	texts := []string{
		"", "+", "/", "+/", "10", "10+", "+20", "10+20/", "10+/7", "+20/7", "10/7", "10+20+7", "10/20+7", "10+20/7/7", "10+20/7+",
		"010+20/7", "00+20", "10+020/7", "10+20/07", "10+20/0", "10+20/1", "10+20/61", "10+20/00", "10+0", "10+201", "2001+20", "-1+20", "-0+20", "10+-20", "10+20/-7",
		"++10+20", "+10+20", "10++20", "10+20/+7", "10+20//7", " 10+20", "10+20 ", "10 +20", "10+ 20", "10+20\n", "10+20/7\n", "10+20/7x", "x+20", "10+x", "10+20/x", "1_0+20", "0x1+20", "1e1+20", "10.0+20", "10,20/7", "10-20", "10+20\x00",
		"10+20/9223372036854775809", "9223372036854775818+20", "18446744073709551626+20/7", "10+18446744073709551636", "١٠+٢٠", "２+３", "\xff", "10+20\xff",
		strings.Repeat("0", 100000) + "10+20", "10+20/7" + strings.Repeat(" ", 100000), strings.Repeat("+", 100000), strings.Repeat("9", 100000),
	}
	for _, text := range texts {
		wantZero(t, "ParseReader", impl.ParseReader, text)
	}
}

func TestAnyReaders(t *testing.T) {
	for _, r := range anyReaders() {
		checkZero(t, "ReaderText", impl.ReaderText, r)
		for _, a := range anyNumbers() {
			checkZero(t, "ReadOn", impl.ReadOn, r, a)
			checkZero(t, "DayOfPage", impl.DayOfPage, r, a)
			checkZero(t, "DaysToEnd", impl.DaysToEnd, a, r)
			checkZero(t, "FirstAtEnd", impl.FirstAtEnd, a, []impl.Reader{r, r})
			checkZero(t, "OrderOnDay", impl.OrderOnDay, a, []impl.Reader{r}, 1)
			checkZero(t, "OrderOnDay", impl.OrderOnDay, 100, []impl.Reader{r}, a)
			checkZero(t, "TogetherPages", impl.TogetherPages, []impl.Reader{r, r}, a)
			checkZero(t, "MarkAfter", impl.MarkAfter, a, r, 1)
			checkZero(t, "MarkAfter", impl.MarkAfter, 2000, r, a)
			checkZero(t, "AheadOn", impl.AheadOn, r, reader(0, 1, 0), a)
			checkZero(t, "Meet", impl.Meet, a, r, reader(0, 2, 0))
		}
		for _, other := range anyReaders() {
			checkZero(t, "Meet", impl.Meet, 2000, r, other)
			checkZero(t, "AheadOn", impl.AheadOn, r, other, 7)
		}
	}
}

func TestAnyPlans(t *testing.T) {
	for _, a := range anyNumbers() {
		for _, b := range anyNumbers() {
			checkZero(t, "AfterParts", impl.AfterParts, 1, [][]int{{a, b}}, []int{1})
			checkZero(t, "AfterParts", impl.AfterParts, a, [][]int{{1, 2}}, []int{b})
			for _, c := range anyNumbers() {
				n, ok := impl.DailyFor(a, b, c)
				zeroUnlessOK(t, "DailyFor", n, ok)
				plan, ok := impl.EvenPlan(a, b, c)
				zeroUnlessOK(t, "EvenPlan", plan, ok)
				plan, ok = impl.RisingPlan(a, b, c)
				zeroUnlessOK(t, "RisingPlan", plan, ok)
				n, ok = impl.FirstForRising(a, b, c)
				zeroUnlessOK(t, "FirstForRising", n, ok)
				plan, ok = impl.PartPlan(a, b, c)
				zeroUnlessOK(t, "PartPlan", plan, ok)
				n, ok = impl.DaysOfParts(a, b, c)
				zeroUnlessOK(t, "DaysOfParts", n, ok)
			}
		}
	}
}
