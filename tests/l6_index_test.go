package tests

import (
	"slices"
	"testing"

	"loop.example/g01394/impl"
)

// marks tells of each page whether an index has it.
type marks [impl.MaxIndexed + 1]bool

// spans returns the ranges from each first number up to the second one.
func spans(ends ...int) []impl.Range {
	list := []impl.Range{}
	for k := 0; k < len(ends); k += 2 {
		list = append(list, impl.Range{From: ends[k], To: ends[k+1]})
	}
	return list
}

// spread returns so many ranges, each with as many pages, the first one from a page on, with a step from one to the next.
func spread(many, from, step, pages int) []impl.Range {
	list := []impl.Range{}
	for k := range many {
		list = append(list, impl.Range{From: from + k*step, To: from + k*step + pages - 1})
	}
	return list
}

func marked(lists ...[]impl.Range) marks {
	var m marks
	for _, list := range lists {
		for _, r := range list {
			for page := r.From; page <= r.To; page++ {
				m[page] = true
			}
		}
	}
	return m
}

// spans looks at one page after the other.
func (m marks) spans() []impl.Range {
	list := []impl.Range{}
	for page := 1; page <= impl.MaxIndexed; page++ {
		switch {
		case m[page] && m[page-1]:
			list[len(list)-1].To = page
		case m[page]:
			list = append(list, impl.Range{From: page, To: page})
		}
	}
	return list
}

func (m marks) pages() []int {
	pages := []int{}
	for page, has := range m {
		if has {
			pages = append(pages, page)
		}
	}
	return pages
}

// smallRanges returns the ranges of all sets of so many pages, behind a page.
func smallRanges(behind, many int) [][]impl.Range {
	var all [][]impl.Range
	for set := range 1 << many {
		var m marks
		for k := range many {
			m[behind+1+k] = set>>k&1 == 1
		}
		all = append(all, m.spans())
	}
	return all
}

// greatRanges has no ranges, as many as can be, the least and the greatest pages, and ranges as near to each other as can be.
func greatRanges() [][]impl.Range {
	return [][]impl.Range{
		nil, spans(), spans(1, 1), spans(2000, 2000), spans(1, 2000), spans(1, 1, 2000, 2000), spans(2, 1999), spans(1, 1000, 1002, 2000), spans(1, 1, 3, 1999), spans(500, 1500),
		spread(20, 1, 2, 1), spread(20, 2, 2, 1), spread(20, 1962, 2, 1), spread(20, 1961, 2, 1), spread(20, 50, 97, 50), spread(20, 1, 100, 99), spread(20, 2, 100, 99), spread(20, 1, 4, 3), spread(20, 3, 4, 3),
		spread(19, 3, 2, 1), spread(19, 1, 100, 99), spread(19, 101, 100, 99), spread(10, 1, 2, 1), spread(10, 21, 2, 1), spread(11, 21, 2, 1), spread(10, 1, 200, 100),
	}
}

// someRanges has all small ranges at both ends of the pages, and great ones.
func someRanges() [][]impl.Range {
	return slices.Concat(smallRanges(0, 6), smallRanges(1994, 6), greatRanges())
}

// wantMade expects the ranges of marked pages, or a failure if these are too many.
func wantMade(t *testing.T, what string, list []impl.Range, ok bool, want marks) {
	t.Helper()
	made := want.spans()
	if len(made) > 20 {
		expect(t, what, got(notNil(list), ok), got(spans(), false))
		return
	}
	expect(t, what, got(notNil(list), ok), got(made, true))
}

func parsedRanges(t *testing.T, text string) []impl.Range {
	t.Helper()
	list, ok := impl.ParseRanges(text)
	expect(t, call("ParseRanges", text), ok, true)
	return list
}

func wantRangesText(t *testing.T, what string, list []impl.Range, ok bool, want string) {
	t.Helper()
	text, fine := impl.RangesText(list)
	expect(t, what, got(text, ok, fine), got(want, true, true))
}

func TestIndexExample(t *testing.T) {
	list, ok := impl.MergeRanges(spans(8, 9, 3, 5, 6, 7))
	expect(t, "MergeRanges", got(list, ok), got(spans(3, 9), true))
	a, b := parsedRanges(t, "3-7"), parsedRanges(t, "5,7-9")
	list, ok = impl.CommonRanges(a, b)
	wantRangesText(t, "CommonRanges", list, ok, "5,7")
	list, ok = impl.WithoutRanges(a, b)
	wantRangesText(t, "WithoutRanges", list, ok, "3-4,6")
	list, ok = impl.UnionRanges(a, b)
	wantRangesText(t, "UnionRanges", list, ok, "3-9")
	list, ok = impl.GapsBetween(parsedRanges(t, "3-4,8,10-2"))
	wantRangesText(t, "GapsBetween", list, ok, "5-7,9")
	list, ok = impl.PutPages(a, 5, 2)
	wantRangesText(t, "PutPages", list, ok, "3-4,7-9")
	list, ok = impl.TakePages(a, 5, 2)
	wantRangesText(t, "TakePages", list, ok, "3-5")
	n, ok := impl.NearestIndexed(parsedRanges(t, "3,7"), 5)
	expect(t, "NearestIndexed", got(n, ok), got(3, true))
	list, ok = impl.JoinGaps(parsedRanges(t, "3-4,6,9"), 1)
	wantRangesText(t, "JoinGaps", list, ok, "3-6,9")
}

func TestConsoleExampleOfIndexes(t *testing.T) {
	list := parsedRanges(t, "3-7")
	n, ok := impl.CountIndexed(list)
	expect(t, "CountIndexed", got(n, ok), got(5, true))
	list, ok = impl.WithoutRanges(list, parsedRanges(t, "5,7-9"))
	wantRangesText(t, "WithoutRanges", list, ok, "3-4,6")
	gaps, ok := impl.GapsBetween(list)
	wantRangesText(t, "GapsBetween", gaps, ok, "5")
	list, ok = impl.UnionRanges(list, parsedRanges(t, "5"))
	wantRangesText(t, "UnionRanges", list, ok, "3-6")
	list, ok = impl.PutPages(list, 5, 2)
	wantRangesText(t, "PutPages", list, ok, "3-4,7-8")
	n, ok = impl.NearestIndexed(list, 6)
	expect(t, "NearestIndexed", got(n, ok), got(7, true))
	longest, ok := impl.LongestRange(list)
	expect(t, "LongestRange", got(longest, ok), got(impl.Range{From: 3, To: 4}, true))
	list, ok = impl.CommonRanges(list, parsedRanges(t, "20"))
	wantRangesText(t, "CommonRanges", list, ok, "")
	wantZero(t, "LongestRange", impl.LongestRange, list)
}

func TestLimitsOfIndexes(t *testing.T) {
	expect(t, "the limits", got(impl.MaxRanges, impl.MaxIndexed), got(20, 2000))
}

func TestAreRanges(t *testing.T) {
	for _, list := range someRanges() {
		expect(t, call("AreRanges", list), impl.AreRanges(list), true)
	}
	for _, none := range noRanges() {
		expect(t, call("AreRanges", len(none), none), impl.AreRanges(none), false)
	}
	// Whatever two ranges within some pages are, just those are ranges that are all that their pages make.
	for _, first := range allRanges(5) {
		for _, second := range allRanges(5) {
			list := []impl.Range{first, second}
			expect(t, call("AreRanges", list), impl.AreRanges(list), slices.Equal(list, marked(list).spans()))
		}
	}
}

// allRanges returns all ranges of pages up to one.
func allRanges(most int) []impl.Range {
	var all []impl.Range
	for from := 1; from <= most; from++ {
		for to := from; to <= most; to++ {
			all = append(all, impl.Range{From: from, To: to})
		}
	}
	return all
}

func wantMerged(t *testing.T, list []impl.Range) {
	t.Helper()
	merged, ok := impl.MergeRanges(list)
	wantMade(t, call("MergeRanges", list), merged, ok, marked(list))
}

func TestMergeRanges(t *testing.T) {
	all := allRanges(5)
	for _, a := range all {
		for _, b := range all {
			wantMerged(t, []impl.Range{a, b})
			for _, c := range all {
				wantMerged(t, []impl.Range{a, b, c})
			}
		}
	}
	for _, list := range someRanges() {
		wantMerged(t, list)
		turned := slices.Clone(list)
		slices.Reverse(turned)
		wantMerged(t, turned)
		wantMerged(t, slices.Concat(turned, list, list))
	}
}

func TestMergeRangesByHand(t *testing.T) {
	turned := spread(100, 1, 20, 20)
	slices.Reverse(turned)
	for _, c := range []struct {
		list []impl.Range
		want []impl.Range
	}{
		{nil, spans()}, {spans(), spans()}, {spans(5, 5), spans(5, 5)}, {spans(5, 5, 5, 5), spans(5, 5)}, {spans(5, 5, 7, 7), spans(5, 5, 7, 7)}, {spans(7, 7, 5, 5), spans(5, 5, 7, 7)}, {spans(7, 7, 5, 5, 6, 6), spans(5, 7)},
		{spans(1, 10, 3, 5), spans(1, 10)}, {spans(3, 5, 1, 10), spans(1, 10)}, {spans(1, 5, 5, 9), spans(1, 9)}, {spans(1, 5, 6, 9), spans(1, 9)}, {spans(1, 5, 7, 9), spans(1, 5, 7, 9)}, {spans(2000, 2000, 1, 1), spans(1, 1, 2000, 2000)}, {spans(1, 2000, 1, 2000), spans(1, 2000)},
		// A hundred ranges are merged, as long as they make twenty at most.
		{slices.Repeat(spans(1, 2000), 100), spans(1, 2000)}, {turned, spans(1, 2000)}, {slices.Repeat(spread(20, 1, 2, 1), 5), spread(20, 1, 2, 1)}, {spread(100, 1, 1, 1), spans(1, 100)}, {append(spread(50, 1, 2, 1), spread(50, 2, 2, 1)...), spans(1, 100)},
		{append(spread(20, 1962, 2, 1), spread(80, 1, 1, 1921)...), spans(1, 2000)},
	} {
		merged, ok := impl.MergeRanges(c.list)
		expect(t, call("MergeRanges", len(c.list), c.list), got(notNil(merged), ok), got(c.want, true))
	}
	wantZero(t, "MergeRanges", impl.MergeRanges, spread(21, 1, 2, 1))
	wantZero(t, "MergeRanges", impl.MergeRanges, spread(100, 1, 2, 1))
	wantZero(t, "MergeRanges", impl.MergeRanges, slices.Repeat(spread(25, 1, 2, 1), 4))
}

func TestPagesOfIndexes(t *testing.T) {
	for _, list := range someRanges() {
		pages := marked(list).pages()
		n, ok := impl.CountIndexed(list)
		expect(t, call("CountIndexed", list), got(n, ok), got(len(pages), true))
		found, ok := impl.PagesOfRanges(list)
		expect(t, call("PagesOfRanges", list), got(notNil(found), ok), got(pages, true))
		made, ok := impl.RangesOfPages(pages)
		expect(t, call("RangesOfPages", pages), got(notNil(made), ok), got(notNil(list), true))
	}
	made, ok := impl.RangesOfPages(nil)
	expect(t, "RangesOfPages of none", got(notNil(made), ok), got(spans(), true))
	for _, pages := range [][]int{marked(spread(21, 1, 2, 1)).pages(), marked(spread(21, 1960, 2, 1)).pages(), marked(spread(1000, 1, 2, 1)).pages(), marked(spread(1000, 2, 2, 1)).pages(), marked(spread(21, 1, 90, 60)).pages()} {
		wantZero(t, "RangesOfPages", impl.RangesOfPages, pages)
	}
}

// pagesNear has all pages if an index is small, and otherwise those about the ends of its ranges and in the middle of its gaps.
func pagesNear(list []impl.Range) []int {
	near := []int{1, 2, 3, 4, 5, 6, 7, 8, 999, 1000, 1001, 1992, 1993, 1994, 1995, 1996, 1997, 1998, 1999, 2000}
	for k, r := range list {
		near = append(near, r.From-1, r.From, r.To, r.To+1)
		if k > 0 {
			middle := (list[k-1].To + r.From) / 2
			near = append(near, middle-1, middle, middle+1)
		}
	}
	slices.Sort(near)
	return slices.DeleteFunc(slices.Compact(near), func(page int) bool { return page < 1 || page > impl.MaxIndexed })
}

// plainNearest goes away from a page step by step, on both sides.
func plainNearest(m marks, page int) int {
	for step := range impl.MaxIndexed {
		if lesser := page - step; lesser >= 1 && m[lesser] {
			return lesser
		}
		if greater := page + step; greater <= impl.MaxIndexed && m[greater] {
			return greater
		}
	}
	return 0
}

func TestHasAndNearestIndexed(t *testing.T) {
	for _, list := range someRanges() {
		m := marked(list)
		for _, page := range pagesNear(list) {
			has, ok := impl.HasIndexed(list, page)
			expect(t, call("HasIndexed", list, page), got(has, ok), got(m[page], true))
			if len(list) == 0 {
				wantZero(t, "NearestIndexed", impl.NearestIndexed, list, page)
				continue
			}
			nearest, ok := impl.NearestIndexed(list, page)
			expect(t, call("NearestIndexed", list, page), got(nearest, ok), got(plainNearest(m, page), true))
		}
	}
}

func TestNearestIndexedByHand(t *testing.T) {
	for _, c := range []struct {
		text    string
		page    int
		nearest int
	}{
		{"3,7", 4, 3}, {"3,7", 5, 3}, {"3,7", 6, 7}, {"3,8", 5, 3}, {"3,8", 6, 8}, {"3-7", 5, 5}, {"3-7", 1, 3}, {"3-7", 2000, 7}, {"1,2000", 1000, 1}, {"1,2000", 1001, 2000}, {"1,1999", 1000, 1}, {"1", 2000, 1}, {"2000", 1, 2000}, {"1-2000", 777, 777}, {"3-5,9,13-5", 7, 5}, {"3-5,9,13-5", 11, 9}, {"3-5,9,13-5", 12, 13},
	} {
		n, ok := impl.NearestIndexed(parsedRanges(t, c.text), c.page)
		expect(t, call("NearestIndexed", c.text, c.page), got(n, ok), got(c.nearest, true))
	}
}

func wantCombined(t *testing.T, a, b []impl.Range) {
	t.Helper()
	inA, inB := marked(a), marked(b)
	var union, common, without marks
	for page := range inA {
		union[page] = inA[page] || inB[page]
		common[page] = inA[page] && inB[page]
		without[page] = inA[page] && !inB[page]
	}
	list, ok := impl.UnionRanges(a, b)
	wantMade(t, call("UnionRanges", a, b), list, ok, union)
	list, ok = impl.CommonRanges(a, b)
	wantMade(t, call("CommonRanges", a, b), list, ok, common)
	list, ok = impl.WithoutRanges(a, b)
	wantMade(t, call("WithoutRanges", a, b), list, ok, without)
}

func TestCombinedRanges(t *testing.T) {
	for _, lists := range [][][]impl.Range{smallRanges(0, 5), smallRanges(1995, 5), greatRanges()} {
		for _, a := range lists {
			for _, b := range lists {
				wantCombined(t, a, b)
			}
		}
	}
}

func TestCombinedRangesAtTheirLimit(t *testing.T) {
	singles := spread(20, 1, 2, 1)
	list, ok := impl.UnionRanges(singles[:10], singles[10:])
	expect(t, "UnionRanges of 10 and 10", got(list, ok), got(singles, true))
	wantZero(t, "UnionRanges", impl.UnionRanges, singles, spans(41, 41))
	wantZero(t, "UnionRanges", impl.UnionRanges, spans(41, 41), singles)
	list, ok = impl.UnionRanges(singles, spread(20, 2, 2, 1))
	expect(t, "UnionRanges of 20 and 20", got(list, ok), got(spans(1, 40), true))
	list, ok = impl.WithoutRanges(spans(1, 2000), spread(19, 2, 2, 1))
	expect(t, "WithoutRanges of 19 holes", got(list, ok), got(append(spread(19, 1, 2, 1), impl.Range{From: 39, To: 2000}), true))
	wantZero(t, "WithoutRanges", impl.WithoutRanges, spans(1, 2000), spread(20, 2, 2, 1))
	// Two lists of ranges have 39 in common at most.
	wantZero(t, "CommonRanges", impl.CommonRanges, spread(20, 1, 4, 3), spread(20, 3, 4, 3))
	list, ok = impl.CommonRanges(spread(11, 1, 4, 3), spread(10, 3, 4, 3))
	expect(t, "CommonRanges of 20", got(list, ok), got(spread(20, 3, 2, 1), true))
	wantZero(t, "CommonRanges", impl.CommonRanges, spread(11, 1, 4, 3), spread(11, 3, 4, 3))
}

func TestGapsBetween(t *testing.T) {
	for _, list := range someRanges() {
		var gaps marks
		if len(list) > 0 {
			has := marked(list)
			for page := list[0].From; page <= list[len(list)-1].To; page++ {
				gaps[page] = !has[page]
			}
		}
		found, ok := impl.GapsBetween(list)
		wantMade(t, call("GapsBetween", list), found, ok, gaps)
		expect(t, call("GapsBetween are ranges", list), impl.AreRanges(found), true)
	}
	for _, list := range [][]impl.Range{nil, spans(5, 5), spans(1, 2000)} {
		found, ok := impl.GapsBetween(list)
		expect(t, call("GapsBetween", list), got(notNil(found), ok), got(spans(), true))
	}
	found, ok := impl.GapsBetween(spans(1, 1, 2000, 2000))
	expect(t, "GapsBetween 1,2000", got(found, ok), got(spans(2, 1999), true))
}

func TestJoinGaps(t *testing.T) {
	for _, list := range someRanges() {
		for _, gap := range []int{0, 1, 2, 3, 4, 47, 100, 1998, 1999, impl.MaxIndexed} {
			joined := marked(list)
			for k := 1; k < len(list); k++ {
				if between := (impl.Range{From: list[k-1].To + 1, To: list[k].From - 1}); between.To-between.From+1 <= gap {
					joined = marked(joined.spans(), []impl.Range{between})
				}
			}
			made, ok := impl.JoinGaps(list, gap)
			wantMade(t, call("JoinGaps", list, gap), made, ok, joined)
		}
	}
}

func TestJoinGapsByHand(t *testing.T) {
	for _, c := range []struct {
		text   string
		gap    int
		joined string
	}{
		{"", 0, ""}, {"", 2000, ""}, {"5", 2000, "5"}, {"3-4,6,9", 0, "3-4,6,9"}, {"3-4,6,9", 1, "3-6,9"}, {"3-4,6,9", 2, "3-9"}, {"3-4,7,9", 1, "3-4,7-9"}, {"1,2000", 1997, "1,2000"}, {"1,2000", 1998, "1-2000"}, {"1,4,8,13", 3, "1-8,13"}, {"13-5,21,25-30", 3, "13-5,21-30"},
	} {
		joined, ok := impl.JoinGaps(parsedRanges(t, c.text), c.gap)
		wantRangesText(t, call("JoinGaps", c.text, c.gap), joined, ok, c.joined)
	}
	joined, ok := impl.JoinGaps(spread(20, 1, 2, 1), 1)
	expect(t, "JoinGaps of 20", got(joined, ok), got(spans(1, 39), true))
	joined, ok = impl.JoinGaps(spread(20, 1, 2, 1), 0)
	expect(t, "JoinGaps of 20 with 0", got(joined, ok), got(spread(20, 1, 2, 1), true))
}

func TestLongestRange(t *testing.T) {
	for _, list := range someRanges() {
		if len(list) == 0 {
			wantZero(t, "LongestRange", impl.LongestRange, list)
			continue
		}
		want := list[0]
		for _, r := range list {
			if r.To-r.From > want.To-want.From {
				want = r
			}
		}
		longest, ok := impl.LongestRange(list)
		expect(t, call("LongestRange", list), got(longest, ok), got(want, true))
	}
	for _, c := range []struct {
		text     string
		from, to int
	}{{"3", 3, 3}, {"3,5", 3, 3}, {"3,5-6", 5, 6}, {"3-4,6-7", 3, 4}, {"3,5-6,8-9,11", 5, 6}, {"1-2,5-7,9-10,12-4", 5, 7}, {"1,3-2000", 3, 2000}, {"1-1998,2000", 1, 1998}} {
		longest, ok := impl.LongestRange(parsedRanges(t, c.text))
		expect(t, call("LongestRange", c.text), got(longest, ok), got(impl.Range{From: c.from, To: c.to}, true))
	}
}

func TestIndexesKeepTheirMemory(t *testing.T) {
	room := spans(3, 5, 8, 8, 10, 12, 99, 98, 97, 96)
	list := room[:3]
	otherRoom := spans(4, 8, 20, 20, 95, 94)
	others := otherRoom[:2]
	pageRoom := []int{3, 4, 7, 99, 98}
	rooms := []any{room, otherRoom, pageRoom}
	first := func(list []impl.Range, _ bool) []impl.Range { return list }
	for name, made := range map[string]func() []impl.Range{
		"MergeRanges":                 func() []impl.Range { return first(impl.MergeRanges(list)) },
		"UnionRanges":                 func() []impl.Range { return first(impl.UnionRanges(list, others)) },
		"UnionRanges with none":       func() []impl.Range { return first(impl.UnionRanges(list, nil)) },
		"UnionRanges of none":         func() []impl.Range { return first(impl.UnionRanges(nil, list)) },
		"CommonRanges":                func() []impl.Range { return first(impl.CommonRanges(list, others)) },
		"CommonRanges with itself":    func() []impl.Range { return first(impl.CommonRanges(list, list)) },
		"WithoutRanges":               func() []impl.Range { return first(impl.WithoutRanges(list, others)) },
		"WithoutRanges of none":       func() []impl.Range { return first(impl.WithoutRanges(list, nil)) },
		"GapsBetween":                 func() []impl.Range { return first(impl.GapsBetween(list)) },
		"PutPages":                    func() []impl.Range { return first(impl.PutPages(list, 4, 2)) },
		"PutPages of none":            func() []impl.Range { return first(impl.PutPages(list, 4, 0)) },
		"TakePages":                   func() []impl.Range { return first(impl.TakePages(list, 4, 2)) },
		"TakePages of none":           func() []impl.Range { return first(impl.TakePages(list, 4, 0)) },
		"RangesOfPages":               func() []impl.Range { return first(impl.RangesOfPages(pageRoom[:3])) },
		"JoinGaps":                    func() []impl.Range { return first(impl.JoinGaps(list, 1)) },
		"JoinGaps of none":            func() []impl.Range { return first(impl.JoinGaps(list, 0)) },
		"ParseRanges of some ranges":  func() []impl.Range { return first(impl.ParseRanges("3-5,8,10-2")) },
		"MergeRanges of single pages": func() []impl.Range { return first(impl.MergeRanges(list[1:2])) },
	} {
		wantOwnMemory(t, name, made, rooms, impl.Range{From: -1, To: -2})
	}
	wantOwnMemory(t, "PagesOfRanges", func() []int { pages, _ := impl.PagesOfRanges(list); return pages }, rooms, -1)
	impl.AreRanges(list)
	impl.CountIndexed(list)
	impl.HasIndexed(list, 4)
	impl.NearestIndexed(list, 4)
	impl.LongestRange(list)
	impl.RangesText(list)
	expect(t, "the room of ranges", got(room), got(spans(3, 5, 8, 8, 10, 12, 99, 98, 97, 96)))
	expect(t, "the room of other ranges", got(otherRoom), got(spans(4, 8, 20, 20, 95, 94)))
	expect(t, "the room of pages", got(pageRoom), got([]int{3, 4, 7, 99, 98}))
}
