package tests

import (
	"math"
	"slices"
	"strings"
	"testing"

	"loop.example/g01394/impl"
)

// invalidRanges has single ranges with one number or both out of their bounds.
func invalidRanges() []impl.Range {
	none := []impl.Range{{}, {From: 5, To: 4}, {From: 2, To: 1}, {From: 2000, To: 1999}, {From: 2000, To: 1}, {From: math.MinInt, To: math.MaxInt}, {From: math.MaxInt, To: math.MinInt}}
	for _, n := range append(outside(1, impl.MaxIndexed), 0) {
		none = append(none, impl.Range{From: n, To: n}, impl.Range{From: n, To: 5}, impl.Range{From: 5, To: n}, impl.Range{From: 1, To: n}, impl.Range{From: n, To: 2000})
	}
	return none
}

// noRanges has lists with an invalid range at each end and between, with ranges too near to each other or in disorder, and with too many.
func noRanges() [][]impl.Range {
	none := [][]impl.Range{
		spans(3, 4, 5, 6), spans(3, 5, 5, 6), spans(3, 5, 4, 4), spans(3, 5, 3, 5), spans(3, 3, 3, 3), spans(5, 5, 3, 3), spans(8, 9, 3, 5), spans(3, 4, 8, 9, 6, 6), spans(3, 4, 8, 9, 10, 11), spans(1, 2000, 2000, 2000), spans(1, 1999, 2000, 2000), spans(1, 1, 2, 2000), spans(2000, 2000, 1, 1), spans(1, 1, 3, 3, 2, 2),
		spread(21, 1, 2, 1), spread(21, 1960, 2, 1), spread(21, 1, 90, 60), spread(1000, 1, 2, 1), make([]impl.Range, 20), make([]impl.Range, 100000), spread(20, 1, 1, 1), spread(19, 1964, 2, 2),
	}
	for _, r := range invalidRanges() {
		none = append(none, []impl.Range{r}, []impl.Range{r, {From: 5, To: 7}}, []impl.Range{{From: 5, To: 7}, r}, []impl.Range{{From: 1, To: 1}, r, {From: 1999, To: 2000}}, append(spread(19, 1, 2, 1), r))
	}
	return none
}

func TestNoRanges(t *testing.T) {
	good := spans(3, 7)
	for _, none := range noRanges() {
		for name, function := range map[string]any{"CountIndexed": impl.CountIndexed, "GapsBetween": impl.GapsBetween, "PagesOfRanges": impl.PagesOfRanges, "LongestRange": impl.LongestRange, "RangesText": impl.RangesText} {
			wantZero(t, name, function, none)
		}
		for name, function := range map[string]any{"UnionRanges": impl.UnionRanges, "CommonRanges": impl.CommonRanges, "WithoutRanges": impl.WithoutRanges} {
			wantZero(t, name, function, none, good)
			wantZero(t, name, function, good, none)
			wantZero(t, name, function, none, none)
			wantZero(t, name, function, none, []impl.Range(nil))
			wantZero(t, name, function, []impl.Range(nil), none)
		}
		for _, n := range []int{0, 1, 5, impl.MaxIndexed} {
			wantZero(t, "JoinGaps", impl.JoinGaps, none, n)
			wantZero(t, "HasIndexed", impl.HasIndexed, none, n)
			wantZero(t, "NearestIndexed", impl.NearestIndexed, none, n)
			for _, page := range []int{1, 5, impl.MaxIndexed} {
				wantZero(t, "PutPages", impl.PutPages, none, page, n)
				wantZero(t, "TakePages", impl.TakePages, none, page, n)
			}
		}
	}
}

func TestInvalidPagesOfIndexes(t *testing.T) {
	for _, list := range [][]impl.Range{nil, spans(3, 7), spans(1, 2000), spread(20, 1, 2, 1)} {
		for _, page := range append(outside(1, impl.MaxIndexed), 0) {
			wantZero(t, "HasIndexed", impl.HasIndexed, list, page)
			wantZero(t, "NearestIndexed", impl.NearestIndexed, list, page)
			for _, many := range []int{0, 1, impl.MaxIndexed} {
				wantZero(t, "PutPages", impl.PutPages, list, page, many)
				wantZero(t, "TakePages", impl.TakePages, list, page, many)
			}
		}
		for _, many := range outside(0, impl.MaxIndexed) {
			wantZero(t, "JoinGaps", impl.JoinGaps, list, many)
			for _, page := range []int{1, 5, impl.MaxIndexed} {
				wantZero(t, "PutPages", impl.PutPages, list, page, many)
				wantZero(t, "TakePages", impl.TakePages, list, page, many)
			}
		}
	}
}

func TestInvalidMerges(t *testing.T) {
	for _, r := range invalidRanges() {
		wantZero(t, "ShortRange", impl.ShortRange, r)
		wantZero(t, "MergeRanges", impl.MergeRanges, []impl.Range{r})
		wantZero(t, "MergeRanges", impl.MergeRanges, []impl.Range{r, {From: 5, To: 7}})
		wantZero(t, "MergeRanges", impl.MergeRanges, []impl.Range{{From: 5, To: 7}, r})
		wantZero(t, "MergeRanges", impl.MergeRanges, append(slices.Repeat(spans(1, 2000), 99), r))
	}
	for _, list := range [][]impl.Range{slices.Repeat(spans(1, 2000), 101), slices.Repeat(spans(5, 5), 101), spread(101, 1, 1, 1), slices.Repeat(spans(5, 5), 100000)} {
		wantZero(t, "MergeRanges", impl.MergeRanges, list)
	}
}

func TestNoPagesOfRanges(t *testing.T) {
	all := marked(spans(1, 2000)).pages()
	none := [][]int{{1, 1}, {2, 1}, {3, 4, 4}, {3, 5, 4}, {4, 3, 5}, append(slices.Clone(all), 2000), append(slices.Clone(all), 2001), make([]int, 5), make([]int, 100000), slices.Repeat([]int{7}, 100000)}
	for _, n := range append(outside(1, impl.MaxIndexed), 0) {
		none = append(none, []int{n}, []int{n, 5}, []int{5, n}, []int{1, n, 2000}, []int{n, n + 1})
	}
	for _, pages := range none {
		wantZero(t, "RangesOfPages", impl.RangesOfPages, pages)
	}
}

func noRangeTexts() []string {
	return []string{
		"-", "--", "3-", "-7", "3--7", "3-7-", "-3-7", "3-7-9", "3-3", "7-3", "20-20", "20-0", "25-4", "120-120", "120-0", "120-20", "120-134", "120-4-5", "123-25", "123-125", "123-023", "98-2", "98-02", "98-99", "100-09", "1000-0001", "1000-001", "1000-01", "1000-1001", "1000-1999", "1999-000", "1999-0", "9-010", "1-02", "10-02", "010-2", "03", "03-7", "3-07", "0", "00", "0-3", "3-0", "2001", "1-2001", "1999-2001", "2000-1", "10000", "1-10000",
		"+3", "3-+7", "+3-7", " 3", "3 ", "3 -7", "3- 7", "3-7 ", "3-7\n", "\n3", "3\x00", "x", "x-7", "3-x", "3x", "3.0", "3_0", "1_0-2", "0x3", "3e1", "3–7", "3..7", "9223372036854775808", "18446744073709551619", "3-18446744073709551623", "٣", "３-７", "\xff", "3\xff",
		strings.Repeat("0", 100000) + "3", "3" + strings.Repeat(" ", 100000), strings.Repeat("-", 100000), strings.Repeat("9", 100000), "3-" + strings.Repeat("0", 100000) + "7",
	}
}

func TestTextsOfNoRanges(t *testing.T) {
	wantZero(t, "LongRange", impl.LongRange, "")
	wantZero(t, "LongRange", impl.LongRange, "3,5")
	for _, text := range noRangeTexts() {
		wantZero(t, "LongRange", impl.LongRange, text)
		wantZero(t, "ParseRanges", impl.ParseRanges, text)
		wantZero(t, "ParseRanges", impl.ParseRanges, text+",1990")
		wantZero(t, "ParseRanges", impl.ParseRanges, "1,"+text)
	}
	for _, text := range []string{
		",", ",,", "3,", ",3", "3,,5", "3-7,", ",3-7", "3, 5", "3 ,5", "3;5", "3+5", "3 5", "3.5", " ", "\n", "3,5\n", "none", "-",
		// These are texts of ranges one by one, but not of a list of them.
		"3,4", "3,3", "5,3", "3-4,5-6", "3-5,4", "3-7,5", "8-9,3-5", "3-4,8,6", "1-1999,2000",
		"1,3,5,7,9,11,13,15,17,19,21,23,25,27,29,31,33,35,37,39,41",
		strings.Repeat("1,", 100000) + "3", strings.Repeat(",", 100000), strings.Repeat("1999-2000,", 20),
	} {
		wantZero(t, "ParseRanges", impl.ParseRanges, text)
	}
}

func TestAnyRanges(t *testing.T) {
	good := spans(3, 7, 1000, 1999)
	for _, a := range anyNumbers() {
		checkZero(t, "HasIndexed", impl.HasIndexed, good, a)
		checkZero(t, "NearestIndexed", impl.NearestIndexed, good, a)
		checkZero(t, "JoinGaps", impl.JoinGaps, good, a)
		for _, b := range anyNumbers() {
			checkZero(t, "PutPages", impl.PutPages, good, a, b)
			checkZero(t, "TakePages", impl.TakePages, good, a, b)
			checkZero(t, "ShortRange", impl.ShortRange, impl.Range{From: a, To: b})
			checkZero(t, "RangesOfPages", impl.RangesOfPages, []int{a, b})
			for _, list := range [][]impl.Range{{{From: a, To: b}}, {{From: 3, To: a}, {From: b, To: 2000}}} {
				for name, function := range map[string]any{"MergeRanges": impl.MergeRanges, "CountIndexed": impl.CountIndexed, "GapsBetween": impl.GapsBetween, "PagesOfRanges": impl.PagesOfRanges, "LongestRange": impl.LongestRange, "RangesText": impl.RangesText} {
					checkZero(t, name, function, list)
				}
				for name, function := range map[string]any{"UnionRanges": impl.UnionRanges, "CommonRanges": impl.CommonRanges, "WithoutRanges": impl.WithoutRanges} {
					checkZero(t, name, function, list, good)
					checkZero(t, name, function, good, list)
				}
				checkZero(t, "PutPages", impl.PutPages, list, a, b)
				checkZero(t, "TakePages", impl.TakePages, list, b, a)
			}
		}
	}
}
