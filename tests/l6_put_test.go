package tests

import (
	"slices"
	"testing"

	"loop.example/g01394/impl"
)

// plainPut lays out the pages of a book, puts empty ones among them, and numbers all anew. It reports whether no marked page has too great a number.
func plainPut(m marks, page, many int) (marks, bool) {
	var numbered marks
	book := slices.Insert(slices.Clone(m[:]), page, make([]bool, many)...)
	for number, has := range book {
		switch {
		case number <= impl.MaxIndexed:
			numbered[number] = has
		case has:
			return marks{}, false
		}
	}
	return numbered, true
}

// plainTaken lays out the pages of a book that is long enough, takes some out, and numbers those that are left anew.
func plainTaken(m marks, page, many int) marks {
	var numbered marks
	book := append(slices.Clone(m[:]), make([]bool, impl.MaxIndexed)...)
	copy(numbered[:], slices.Delete(book, page, page+many))
	return numbered
}

// wantPut expects what plainPut tells, and that the pages that are put in can be taken out again.
func wantPut(t *testing.T, list []impl.Range, page, many int) {
	t.Helper()
	what := call("PutPages", list, page, many)
	put, ok := impl.PutPages(list, page, many)
	want, fits := plainPut(marked(list), page, many)
	if !fits {
		expect(t, what, got(notNil(put), ok), got(spans(), false))
		return
	}
	wantMade(t, what, put, ok, want)
	if ok {
		taken, ok := impl.TakePages(put, page, many)
		expect(t, "taken again "+what, got(notNil(taken), ok), got(notNil(list), true))
	}
}

func wantTaken(t *testing.T, list []impl.Range, page, many int) {
	t.Helper()
	taken, ok := impl.TakePages(list, page, many)
	wantMade(t, call("TakePages", list, page, many), taken, ok, plainTaken(marked(list), page, many))
}

func TestPutAndTakeInSmallIndexes(t *testing.T) {
	for _, list := range smallRanges(0, 6) {
		for page := 1; page <= 8; page++ {
			for many := range 9 {
				wantPut(t, list, page, many)
				wantTaken(t, list, page, many)
			}
		}
	}
	for _, list := range smallRanges(1992, 6) {
		for page := 1991; page <= impl.MaxIndexed; page++ {
			for many := range 5 {
				wantPut(t, list, page, many)
				wantTaken(t, list, page, many)
			}
		}
	}
}

func TestPutAndTakeInGreatIndexes(t *testing.T) {
	for _, list := range greatRanges() {
		for _, page := range pagesNear(list) {
			for _, many := range []int{0, 1, 60, impl.MaxIndexed} {
				wantPut(t, list, page, many)
				wantTaken(t, list, page, many)
			}
		}
	}
}

func TestPutPagesByHand(t *testing.T) {
	for _, c := range []struct {
		text       string
		page, many int
		put        string
	}{
		// Ahead of the first page of a range it is moved as a whole, and behind all nothing is.
		{"3-7", 3, 2, "5-9"}, {"3-7", 1, 2, "5-9"}, {"3-7", 4, 2, "3,6-9"}, {"3-7", 7, 2, "3-6,9"}, {"3-7", 8, 2, "3-7"}, {"3-7", 2000, 2000, "3-7"}, {"3-7", 5, 1, "3-4,6-8"}, {"5", 5, 1, "6"}, {"5", 6, 1, "5"}, {"3,5", 4, 1, "3,6"}, {"3,5", 5, 3, "3,8"}, {"3,5", 3, 3, "6,8"},
		// No pages part nothing.
		{"3-7", 5, 0, "3-7"}, {"3-7", 1, 0, "3-7"}, {"1-2000", 1000, 0, "1-2000"}, {"2000", 2000, 0, "2000"}, {"2000", 1, 0, "2000"},
		{"", 1, 0, ""}, {"", 1, 2000, ""}, {"", 2000, 2000, ""},
		// The greatest page may become MaxIndexed.
		{"3-7", 5, 1993, "3-4,1998-2000"}, {"1", 1, 1999, "2000"}, {"1-1999", 1, 1, "2-2000"}, {"1-1999", 1999, 1, "1-1998,2000"}, {"1-1999", 2000, 2000, "1-1999"}, {"1,1999", 2, 1, "1,2000"}, {"1-2", 2, 1998, "1,2000"},
	} {
		put, ok := impl.PutPages(parsedRanges(t, c.text), c.page, c.many)
		wantRangesText(t, call("PutPages", c.text, c.page, c.many), put, ok, c.put)
	}
	for _, c := range []struct {
		text       string
		page, many int
	}{{"3-7", 5, 1994}, {"1", 1, 2000}, {"1-1999", 1, 2}, {"1-1999", 1999, 2}, {"1-2000", 1, 1}, {"1-2000", 2000, 1}, {"2000", 1, 1}, {"2000", 2000, 1}, {"2000", 2000, 2000}, {"1,2000", 2, 1}, {"1-2", 2, 1999}} {
		wantZero(t, "PutPages", impl.PutPages, parsedRanges(t, c.text), c.page, c.many)
	}
}

func TestPutPagesAtTheirLimit(t *testing.T) {
	// A range that is parted makes one more, but a range that is moved, or pages that are put between two, do not.
	full, nearly := spread(20, 1, 10, 5), spread(19, 1, 10, 5)
	wantZero(t, "PutPages", impl.PutPages, full, 2, 1)
	wantZero(t, "PutPages", impl.PutPages, full, 195, 1)
	put, ok := impl.PutPages(full, 191, 1)
	expect(t, "PutPages ahead of the last one of 20", got(put, ok), got(append(spread(19, 1, 10, 5), impl.Range{From: 192, To: 196}), true))
	put, ok = impl.PutPages(full, 2, 0)
	expect(t, "PutPages of none into 20", got(put, ok), got(full, true))
	put, ok = impl.PutPages(nearly, 2, 1)
	expect(t, "PutPages into 19", got(put, ok), got(append(spans(1, 1, 3, 6), spread(18, 12, 10, 5)...), true))
}

func TestTakePagesByHand(t *testing.T) {
	for _, c := range []struct {
		text       string
		page, many int
		taken      string
	}{
		{"3-7", 1, 2, "1-5"}, {"3-7", 2, 1, "2-6"}, {"3-7", 3, 1, "3-6"}, {"3-7", 3, 5, ""}, {"3-7", 3, 4, "3"}, {"3-7", 1, 4, "1-3"}, {"3-7", 7, 1, "3-6"}, {"3-7", 7, 2, "3-6"}, {"3-7", 8, 1, "3-7"}, {"3-7", 5, 1993, "3-4"}, {"3-7", 5, 2000, "3-4"},
		// Ranges between which all pages are taken out become one.
		{"3-4,6-7", 5, 1, "3-6"}, {"3-4,6-7", 4, 2, "3-5"}, {"3-4,8-9", 5, 3, "3-6"}, {"3-4,8-9", 5, 2, "3-4,6-7"}, {"1,3,5,7", 2, 1, "1-2,4,6"}, {"1,3,5,7", 2, 4, "1,3"}, {"1,3,5,7", 2, 5, "1-2"},
		{"3-7", 5, 0, "3-7"}, {"1-2000", 2000, 0, "1-2000"}, {"", 1, 0, ""}, {"", 1, 2000, ""}, {"", 2000, 2000, ""},
		{"1-2000", 1, 2000, ""}, {"1-2000", 1, 1999, "1"}, {"1-2000", 2, 2000, "1"}, {"1-2000", 2000, 1, "1-1999"}, {"1-2000", 2000, 2000, "1-1999"}, {"2000", 1, 1999, "1"}, {"2000", 1, 2000, ""}, {"1,2000", 2, 1998, "1-2"}, {"1,2000", 2, 1997, "1,3"},
	} {
		taken, ok := impl.TakePages(parsedRanges(t, c.text), c.page, c.many)
		wantRangesText(t, call("TakePages", c.text, c.page, c.many), taken, ok, c.taken)
	}
}
