package tests

import (
	"slices"
	"testing"

	"loop.example/g01394/impl"
)

// paragraphLine is a line of a paragraph of so many, counted from 1 on.
type paragraphLine struct{ line, of int }

func layParagraphs(paragraphs []int) []paragraphLine {
	var laid []paragraphLine
	for _, of := range paragraphs {
		for k := range of {
			laid = append(laid, paragraphLine{k + 1, of})
		}
	}
	return laid
}

// mayBreak reports whether pages may end behind so many lines, but not behind all of them.
func mayBreak(laid []paragraphLine, before int) bool {
	last, next := laid[before-1], laid[before]
	return !(last.of > 1 && last.line == 1) && !(next.of > 1 && next.line == next.of)
}

func plainAllowed(paragraphs []int) []int {
	var breaks []int
	laid := layParagraphs(paragraphs)
	for before := 1; before < len(laid); before++ {
		if mayBreak(laid, before) {
			breaks = append(breaks, before)
		}
	}
	return breaks
}

// plainPages returns the lines of each page, or none if one page would have none.
func plainPages(paragraphs []int, lines int) []int {
	var pages []int
	laid := layParagraphs(paragraphs)
	for before := 0; before < len(laid); {
		many := min(lines, len(laid)-before)
		for before+many < len(laid) && many > 0 && !mayBreak(laid, before+many) {
			many--
		}
		if many == 0 {
			return nil
		}
		pages = append(pages, many)
		before += many
	}
	return pages
}

func failsForParagraphs(t *testing.T, paragraphs []int, lines int) {
	t.Helper()
	for name, function := range map[string]any{"ParagraphBreaks": impl.ParagraphBreaks, "PagesOfParagraphs": impl.PagesOfParagraphs, "LinesLeftOver": impl.LinesLeftOver} {
		wantZero(t, name, function, paragraphs, lines)
	}
}

func wantPages(t *testing.T, paragraphs []int, lines int, breaks, over []int) {
	t.Helper()
	list, ok := impl.ParagraphBreaks(paragraphs, lines)
	expect(t, call("ParagraphBreaks", paragraphs, lines), got(notNil(list), ok), got(notNil(breaks), true))
	n, ok := impl.PagesOfParagraphs(paragraphs, lines)
	expect(t, call("PagesOfParagraphs", paragraphs, lines), got(n, ok), got(len(over), true))
	list, ok = impl.LinesLeftOver(paragraphs, lines)
	expect(t, call("LinesLeftOver", paragraphs, lines), got(list, ok), got(over, true))
}

func wantParagraphs(t *testing.T, paragraphs []int, lines int) {
	t.Helper()
	pages := plainPages(paragraphs, lines)
	if pages == nil {
		failsForParagraphs(t, paragraphs, lines)
		return
	}
	var breaks, over []int
	before := 0
	for _, many := range pages {
		before += many
		breaks = append(breaks, before)
		over = append(over, lines-many)
	}
	wantPages(t, paragraphs, lines, breaks[:len(breaks)-1], over)
}

// longParagraphs has up to MaxParagraphs, short and long ones.
func longParagraphs() [][]int {
	var all [][]int
	for many := 1; many <= impl.MaxParagraphs; many++ {
		for _, turn := range [][]int{{1}, {2}, {3}, {4}, {5}, {59}, {60}, {1, 60}, {60, 2, 1}, {3, 4}, {1, 2, 3}, {17, 4, 31, 2, 8}, {7, 1, 58, 2, 33, 60, 3}} {
			var paragraphs []int
			for k := range many {
				paragraphs = append(paragraphs, turn[k%len(turn)])
			}
			all = append(all, paragraphs)
		}
	}
	return all
}

func someParagraphs() [][]int { return append(allChapters(4, 7), longParagraphs()...) }

func TestParagraphExample(t *testing.T) {
	breaks, ok := impl.BreaksAllowed([]int{3, 4}, 4)
	expect(t, "BreaksAllowed", got(breaks, ok), got([]int{3, 5}, true))
	wantPages(t, []int{3, 4}, 4, []int{3}, []int{1, 0})
}

func TestPagesOfParagraphs(t *testing.T) {
	for _, paragraphs := range allChapters(4, 7) {
		for lines := 2; lines <= 30; lines++ {
			wantParagraphs(t, paragraphs, lines)
		}
		wantParagraphs(t, paragraphs, impl.MaxLinesOfPage)
	}
	for _, paragraphs := range longParagraphs() {
		for lines := 2; lines <= impl.MaxLinesOfPage; lines++ {
			wantParagraphs(t, paragraphs, lines)
		}
	}
}

func TestBreaksAllowed(t *testing.T) {
	for _, paragraphs := range someParagraphs() {
		want := plainAllowed(paragraphs)
		for _, lines := range []int{2, 3, 4, 59, impl.MaxLinesOfPage} {
			breaks, ok := impl.BreaksAllowed(paragraphs, lines)
			expect(t, call("BreaksAllowed", paragraphs, lines), got(notNil(breaks), ok), got(notNil(want), true))
		}
	}
}

// TestPagesBreakWhereAllowed holds promise 7 against the calls themselves.
func TestPagesBreakWhereAllowed(t *testing.T) {
	for _, paragraphs := range someParagraphs() {
		all := len(layParagraphs(paragraphs))
		for lines := 2; lines <= impl.MaxLinesOfPage; lines++ {
			breaks, ok := impl.ParagraphBreaks(paragraphs, lines)
			if !ok {
				continue
			}
			allowed, _ := impl.BreaksAllowed(paragraphs, lines)
			over, _ := impl.LinesLeftOver(paragraphs, lines)
			before := 0
			for page, end := range append(breaks, all) {
				if end != all && !slices.Contains(allowed, end) {
					t.Errorf("%v breaks behind %d, which is not allowed", paragraphs, end)
				}
				if over[page] != lines-(end-before) || over[page] < 0 || end <= before {
					t.Errorf("%v has %d lines left over on page %d of %d", paragraphs, over[page], page, lines)
				}
				// No later break is near enough.
				for _, later := range append(slices.Clone(allowed), all) {
					if later > end && later-before <= lines {
						t.Errorf("%v breaks behind %d, not %d, on pages of %d", paragraphs, end, later, lines)
					}
				}
				before = end
			}
		}
	}
}

func TestParagraphsByHand(t *testing.T) {
	for _, c := range []struct {
		paragraphs   []int
		lines        int
		breaks, over []int
	}{
		// Paragraphs of one line may be anywhere.
		{[]int{1}, 2, nil, []int{1}}, {[]int{1}, 60, nil, []int{59}}, {[]int{1, 1, 1}, 2, []int{2}, []int{0, 1}}, {[]int{1, 1, 1}, 3, nil, []int{0}},
		// Paragraphs of two and three stay on one page.
		{[]int{2}, 2, nil, []int{0}}, {[]int{2, 2}, 2, []int{2}, []int{0, 0}}, {[]int{2, 2}, 3, []int{2}, []int{1, 1}}, {[]int{1, 2}, 2, []int{1}, []int{1, 0}}, {[]int{2, 1}, 2, []int{2}, []int{0, 1}}, {[]int{3}, 3, nil, []int{0}}, {[]int{3, 3}, 5, []int{3}, []int{2, 2}}, {[]int{1, 3}, 3, []int{1}, []int{2, 0}},
		// Paragraphs of four and more are parted, so that two lines or more are on both sides.
		{[]int{4}, 2, []int{2}, []int{0, 0}}, {[]int{4}, 3, []int{2}, []int{1, 1}}, {[]int{4}, 4, nil, []int{0}}, {[]int{5}, 3, []int{3}, []int{0, 1}}, {[]int{5}, 4, []int{3}, []int{1, 2}}, {[]int{1, 4}, 2, []int{1, 3}, []int{1, 0, 0}}, {[]int{6}, 4, []int{4}, []int{0, 2}}, {[]int{6}, 5, []int{4}, []int{1, 3}},
		// One line between two breaks is not alone of its paragraph at its first or last line.
		{[]int{5}, 2, []int{2, 3}, []int{0, 1, 0}}, {[]int{7}, 2, []int{2, 4, 5}, []int{0, 0, 1, 0}},
		// A page that ends with a paragraph, just full or not.
		{[]int{3, 4}, 3, []int{3, 5}, []int{0, 1, 1}}, {[]int{2, 3, 4}, 5, []int{5}, []int{0, 1}}, {[]int{60}, 60, nil, []int{0}}, {slices.Repeat([]int{60}, 3), 60, []int{60, 120}, []int{0, 0, 0}}, {[]int{59, 1}, 60, nil, []int{0}}, {[]int{59, 2}, 60, []int{59}, []int{1, 58}}, {[]int{60}, 59, []int{58}, []int{1, 57}},
	} {
		wantPages(t, c.paragraphs, c.lines, c.breaks, c.over)
	}
	// A page would have no line: the first one, one between, the last one.
	for _, c := range [][]int{{3}, {3, 1, 1}, {1, 3}, {2, 2, 3, 2}, {2, 2, 3}, {5, 3}, {4, 3, 4}} {
		failsForParagraphs(t, c, 2)
	}
	n, ok := impl.PagesOfParagraphs(slices.Repeat([]int{60}, 12), 2)
	expect(t, "PagesOfParagraphs of the most", got(n, ok), got(360, true))
}

func TestAllowedByHand(t *testing.T) {
	for _, c := range []struct {
		paragraphs, breaks []int
	}{
		{[]int{1}, nil}, {[]int{2}, nil}, {[]int{3}, nil}, {[]int{4}, []int{2}}, {[]int{5}, []int{2, 3}}, {[]int{6}, []int{2, 3, 4}}, {[]int{1, 1}, []int{1}}, {[]int{1, 2}, []int{1}}, {[]int{2, 1}, []int{2}}, {[]int{1, 1, 1}, []int{1, 2}}, {[]int{2, 2}, []int{2}}, {[]int{3, 3}, []int{3}}, {[]int{4, 1, 5}, []int{2, 4, 5, 7, 8}},
	} {
		// It does not matter that pages of two lines could not have some of these.
		for _, lines := range []int{2, 3, 7, 60} {
			breaks, ok := impl.BreaksAllowed(c.paragraphs, lines)
			expect(t, call("BreaksAllowed", c.paragraphs, lines), got(notNil(breaks), ok), got(notNil(c.breaks), true))
		}
	}
}

func TestParagraphsAreNew(t *testing.T) {
	room := []int{3, 4, 9, 99, 98}
	paragraphs := room[:3]
	for name, list := range map[string]func() []int{
		"ParagraphBreaks":           func() []int { l, _ := impl.ParagraphBreaks(paragraphs, 4); return l },
		"ParagraphBreaks of a page": func() []int { l, _ := impl.ParagraphBreaks(paragraphs, 60); return l },
		"BreaksAllowed":             func() []int { l, _ := impl.BreaksAllowed(paragraphs, 4); return l },
		"BreaksAllowed of one":      func() []int { l, _ := impl.BreaksAllowed(paragraphs[:1], 4); return l },
		"LinesLeftOver":             func() []int { l, _ := impl.LinesLeftOver(paragraphs, 4); return l },
	} {
		wantOwnMemory(t, name, list, room, -1)
	}
	impl.PagesOfParagraphs(paragraphs, 4)
	expect(t, "the room of paragraphs", got(room), got([]int{3, 4, 9, 99, 98}))
}
