package tests

import (
	"slices"
	"strconv"
	"testing"

	"loop.example/g01394/impl"
)

// bothSides has what can be told of chapters: that they begin on right pages, or on any.
var bothSides = []bool{false, true}

// plainPage is a page of a book: its chapter, and which one of the pages of the chapter, or 0 if it is blank.
type plainPage struct{ chapter, page int }

// plainBook lays one page behind the other.
func plainBook(chapters []int, right bool) []plainPage {
	var book []plainPage
	for chapter, pages := range chapters {
		if right && len(book)%2 == 1 {
			book = append(book, plainPage{})
		}
		for page := range pages {
			book = append(book, plainPage{chapter, page + 1})
		}
	}
	return book
}

func plainBlanks(book []plainPage) []int {
	blanks := []int{}
	for k, page := range book {
		if page.page == 0 {
			blanks = append(blanks, k+1)
		}
	}
	return blanks
}

func plainBeginnings(book []plainPage) []int {
	var beginnings []int
	for k, page := range book {
		if page.page == 1 {
			beginnings = append(beginnings, k+1)
		}
	}
	return beginnings
}

// allChapters returns all lists of up to so many chapters, each with 1 up to most pages.
func allChapters(many, most int) [][]int {
	var all [][]int
	for long := 1; long <= many; long++ {
		all = append(all, allLists(long, 1, most)...)
	}
	return all
}

// longChapters has lists of one chapter up to MaxChapters, with the fewest and the most pages, odd and even ones, and some between.
func longChapters() [][]int {
	var all [][]int
	for many := 1; many <= impl.MaxChapters; many++ {
		for _, turn := range [][]int{{1}, {2}, {119}, {120}, {1, 2}, {120, 119}, {1, 120}, {2, 3, 3}, {120, 1, 60}, {7, 30, 4, 99, 12}, {13, 1, 88, 54, 3, 120, 6}} {
			var chapters []int
			for k := range many {
				chapters = append(chapters, turn[k%len(turn)])
			}
			all = append(all, chapters)
		}
	}
	return all
}

func TestChapterExample(t *testing.T) {
	chapters, ok := impl.ParseChapters("3+4+5+2")
	expect(t, "ParseChapters", got(chapters, ok), got([]int{3, 4, 5, 2}, true))
	list, ok := impl.BeginningsOf(chapters, true)
	expect(t, "BeginningsOf", got(list, ok), got([]int{1, 5, 9, 15}, true))
	list, ok = impl.BlanksOf(chapters, true)
	expect(t, "BlanksOf", got(list, ok), got([]int{4, 14}, true))
	n, ok := impl.PagesOfChapters(chapters, true)
	expect(t, "PagesOfChapters", got(n, ok), got(16, true))
	chapter, page, ok := impl.ChapterOfPage(chapters, true, 6)
	expect(t, "ChapterOfPage 6", got(chapter, page, ok), got(1, 2, true))
	n, ok = impl.FewestBlanks(chapters)
	expect(t, "FewestBlanks", got(n, ok), got(1, true))
	list, ok = impl.FirstFewestBlanks(chapters)
	expect(t, "FirstFewestBlanks", got(list, ok), got([]int{0, 1, 3, 2}, true))
	n, ok = impl.CountFewestBlanks(chapters)
	expect(t, "CountFewestBlanks", got(n, ok), got(12, true))
}

func TestLimitsOfChapters(t *testing.T) {
	expect(t, "the limits", got(impl.MaxChapters, impl.MaxChapter, impl.MaxSplits, impl.MaxContents), got(12, 120, 5, 60))
}

func TestAreChapters(t *testing.T) {
	for pages := 1; pages <= impl.MaxChapter; pages++ {
		for _, chapters := range [][]int{{pages}, {pages, 1}, {120, pages}, {1, 120, pages, 1, 120, 1, 120, 1, 120, 1, 120, pages}} {
			expect(t, call("AreChapters", chapters), impl.AreChapters(chapters), true)
		}
	}
	for _, chapters := range longChapters() {
		expect(t, call("AreChapters", chapters), impl.AreChapters(chapters), true)
	}
	for _, none := range noChapters() {
		expect(t, call("AreChapters", len(none), none), impl.AreChapters(none), false)
	}
}

func TestBooksOfChapters(t *testing.T) {
	for _, chapters := range append(allChapters(4, 4), longChapters()...) {
		for _, right := range bothSides {
			book := plainBook(chapters, right)
			list, ok := impl.BeginningsOf(chapters, right)
			expect(t, call("BeginningsOf", chapters, right), got(list, ok), got(plainBeginnings(book), true))
			list, ok = impl.BlanksOf(chapters, right)
			expect(t, call("BlanksOf", chapters, right), got(notNil(list), ok), got(plainBlanks(book), true))
			n, ok := impl.PagesOfChapters(chapters, right)
			expect(t, call("PagesOfChapters", chapters, right), got(n, ok), got(len(book), true))
		}
	}
}

func TestChapterOfPage(t *testing.T) {
	lists := append(allChapters(3, 4), []int{120}, []int{119, 120, 1}, []int{1, 120, 119}, slices.Repeat([]int{3}, 12), slices.Repeat([]int{119}, 12), slices.Repeat([]int{120}, 12))
	for _, chapters := range lists {
		for _, right := range bothSides {
			book := plainBook(chapters, right)
			for page := -1; page <= len(book)+2; page++ {
				var want plainPage
				if page >= 1 && page <= len(book) {
					want = book[page-1]
				}
				chapter, k, ok := impl.ChapterOfPage(chapters, right, page)
				expect(t, call("ChapterOfPage", chapters, right, page), got(chapter, k, ok), got(want.chapter, want.page, want.page > 0))
			}
		}
	}
}

func TestBooksByHand(t *testing.T) {
	for _, c := range []struct {
		chapters   []int
		right      bool
		beginnings []int
		blanks     []int
		pages      int
	}{
		{[]int{3, 4, 5, 2}, false, []int{1, 4, 8, 13}, []int{}, 14},
		// No blank page comes behind the last chapter.
		{[]int{1}, true, []int{1}, []int{}, 1}, {[]int{1}, false, []int{1}, []int{}, 1}, {[]int{2}, true, []int{1}, []int{}, 2}, {[]int{120}, true, []int{1}, []int{}, 120}, {[]int{119}, true, []int{1}, []int{}, 119}, {[]int{2, 1}, true, []int{1, 3}, []int{}, 3},
		{[]int{1, 1}, true, []int{1, 3}, []int{2}, 3}, {[]int{1, 1}, false, []int{1, 2}, []int{}, 2}, {[]int{1, 2}, true, []int{1, 3}, []int{2}, 4}, {[]int{1, 1, 1}, true, []int{1, 3, 5}, []int{2, 4}, 5}, {[]int{2, 4, 6}, true, []int{1, 3, 7}, []int{}, 12},
		{slices.Repeat([]int{119}, 12), true, []int{1, 121, 241, 361, 481, 601, 721, 841, 961, 1081, 1201, 1321}, []int{120, 240, 360, 480, 600, 720, 840, 960, 1080, 1200, 1320}, 1439},
		{slices.Repeat([]int{120}, 12), true, []int{1, 121, 241, 361, 481, 601, 721, 841, 961, 1081, 1201, 1321}, []int{}, 1440},
	} {
		list, ok := impl.BeginningsOf(c.chapters, c.right)
		expect(t, call("BeginningsOf", c.chapters, c.right), got(list, ok), got(c.beginnings, true))
		list, ok = impl.BlanksOf(c.chapters, c.right)
		expect(t, call("BlanksOf", c.chapters, c.right), got(notNil(list), ok), got(c.blanks, true))
		n, ok := impl.PagesOfChapters(c.chapters, c.right)
		expect(t, call("PagesOfChapters", c.chapters, c.right), got(n, ok), got(c.pages, true))
		for _, blank := range c.blanks {
			wantZero(t, "ChapterOfPage", impl.ChapterOfPage, c.chapters, c.right, blank)
		}
	}
}

func TestChaptersBeginWhereTold(t *testing.T) {
	for _, chapters := range longChapters() {
		for _, right := range bothSides {
			beginnings, _ := impl.BeginningsOf(chapters, right)
			blanks, _ := impl.BlanksOf(chapters, right)
			pages, _ := impl.PagesOfChapters(chapters, right)
			for number, first := range beginnings {
				chapter, page, ok := impl.ChapterOfPage(chapters, right, first)
				expect(t, call("ChapterOfPage", chapters, right, first), got(chapter, page, ok), got(number, 1, true))
				if onRight, _ := impl.IsRightPage(first); right && !onRight {
					t.Errorf("chapter %d of %v begins on %d", number, chapters, first)
				}
			}
			for _, blank := range blanks {
				wantZero(t, "ChapterOfPage", impl.ChapterOfPage, chapters, right, blank)
				expect(t, call("a blank page ahead of a chapter", chapters, blank), slices.Contains(beginnings, blank+1), right)
			}
			all := len(blanks)
			for _, n := range chapters {
				all += n
			}
			expect(t, call("all pages", chapters, right), pages, all)
		}
	}
}

// fewestOf is what a look at all orders tells.
type fewestOf struct {
	blanks int
	first  []int
	orders int
}

// plainFewest looks at all orders, which it is given.
func plainFewest(chapters []int, orders [][]int) fewestOf {
	fewest := fewestOf{blanks: -1}
	for _, order := range orders {
		var ordered []int
		for _, number := range order {
			ordered = append(ordered, chapters[number])
		}
		blanks := len(plainBlanks(plainBook(ordered, true)))
		switch {
		case fewest.blanks < 0 || blanks < fewest.blanks:
			fewest = fewestOf{blanks, order, 1}
		case blanks == fewest.blanks:
			fewest.orders++
			if slices.Compare(order, fewest.first) < 0 {
				fewest.first = order
			}
		}
	}
	return fewest
}

func wantFewest(t *testing.T, chapters []int, want fewestOf) {
	t.Helper()
	n, ok := impl.FewestBlanks(chapters)
	expect(t, call("FewestBlanks", chapters), got(n, ok), got(want.blanks, true))
	first, ok := impl.FirstFewestBlanks(chapters)
	expect(t, call("FirstFewestBlanks", chapters), got(first, ok), got(want.first, true))
	n, ok = impl.CountFewestBlanks(chapters)
	expect(t, call("CountFewestBlanks", chapters), got(n, ok), got(want.orders, true))
}

func TestFewestBlanks(t *testing.T) {
	for many := 1; many <= 7; many++ {
		orders := allStandings(many)
		for odd := range 1 << many {
			var chapters []int
			for k := range many {
				// The chapters are short, so that many of them have as many pages.
				chapters = append(chapters, 2+odd>>k&1)
			}
			wantFewest(t, chapters, plainFewest(chapters, orders))
		}
	}
	for _, chapters := range longChapters() {
		if len(chapters) <= 4 {
			wantFewest(t, chapters, plainFewest(chapters, allStandings(len(chapters))))
		}
	}
}

func TestFewestBlanksByHand(t *testing.T) {
	rise := inOrder(12)
	for _, c := range []struct {
		chapters []int
		want     fewestOf
	}{
		{[]int{1}, fewestOf{0, []int{0}, 1}}, {[]int{2}, fewestOf{0, []int{0}, 1}},
		{[]int{1, 2}, fewestOf{0, []int{1, 0}, 1}}, {[]int{2, 1}, fewestOf{0, []int{0, 1}, 1}}, {[]int{1, 1}, fewestOf{1, []int{0, 1}, 2}}, {[]int{2, 2}, fewestOf{0, []int{0, 1}, 2}},
		{[]int{3, 5, 2}, fewestOf{1, []int{0, 2, 1}, 4}}, {[]int{3, 2, 2}, fewestOf{0, []int{1, 2, 0}, 2}},
		// Of 12 chapters there are 479001600 orders, a twelfth of which ends with a told one.
		{slices.Repeat([]int{120}, 12), fewestOf{0, rise, 479001600}}, {slices.Repeat([]int{119}, 12), fewestOf{11, rise, 479001600}},
		{append(slices.Repeat([]int{2}, 11), 1), fewestOf{0, rise, 39916800}}, {append(slices.Repeat([]int{1}, 11), 2), fewestOf{10, []int{0, 1, 2, 3, 4, 5, 6, 7, 8, 9, 11, 10}, 439084800}},
		{append([]int{1}, slices.Repeat([]int{120}, 11)...), fewestOf{0, []int{1, 2, 3, 4, 5, 6, 7, 8, 9, 10, 11, 0}, 39916800}},
		{[]int{1, 2, 1, 2, 1, 2, 1, 2, 1, 2, 2, 2}, fewestOf{4, []int{0, 1, 2, 3, 4, 5, 6, 7, 9, 10, 11, 8}, 199584000}},
	} {
		wantFewest(t, c.chapters, c.want)
	}
}

// TestFirstOrdersHaveFewestBlanks holds promise 5 against the calls themselves.
func TestFirstOrdersHaveFewestBlanks(t *testing.T) {
	for _, chapters := range append(allChapters(4, 3), longChapters()...) {
		order, _ := impl.FirstFewestBlanks(chapters)
		var ordered []int
		for _, number := range order {
			ordered = append(ordered, chapters[number])
		}
		blanks, ok := impl.BlanksOf(ordered, true)
		fewest, _ := impl.FewestBlanks(chapters)
		expect(t, call("blanks of the first order", chapters), got(len(blanks), ok), got(fewest, true))
		asTold, _ := impl.BlanksOf(chapters, true)
		if len(asTold) < fewest {
			t.Errorf("%v has fewer than %d blanks", chapters, fewest)
		}
	}
}

func TestLongestChapter(t *testing.T) {
	for _, chapters := range append(allChapters(4, 4), longChapters()...) {
		longest := 0
		for k, pages := range chapters {
			if pages > chapters[longest] {
				longest = k
			}
		}
		number, pages, ok := impl.LongestChapter(chapters)
		expect(t, call("LongestChapter", chapters), got(number, pages, ok), got(longest, chapters[longest], true))
	}
	for _, c := range []struct {
		chapters []int
		number   int
		pages    int
	}{{[]int{3, 4, 5, 2}, 2, 5}, {[]int{5, 4, 5}, 0, 5}, {[]int{4, 5, 5}, 1, 5}, {[]int{1, 2}, 1, 2}, {[]int{1}, 0, 1}, {[]int{120}, 0, 120}, {slices.Repeat([]int{120}, 12), 0, 120}, {append(slices.Repeat([]int{119}, 11), 120), 11, 120}} {
		number, pages, ok := impl.LongestChapter(c.chapters)
		expect(t, call("LongestChapter", c.chapters), got(number, pages, ok), got(c.number, c.pages, true))
	}
}

func TestMoveChapter(t *testing.T) {
	lists := append(allChapters(4, 3), []int{1, 2, 3, 4, 5, 6, 7, 8, 9, 10, 11, 12}, slices.Repeat([]int{120}, 12))
	for _, chapters := range lists {
		for from := range chapters {
			for to := range chapters {
				moved, ok := impl.MoveChapter(chapters, from, to)
				expect(t, call("MoveChapter", chapters, from, to), got(moved, ok), got(plainMoved(chapters, from, to), true))
			}
		}
	}
}

func TestMoveChapterByHand(t *testing.T) {
	for _, c := range []struct {
		from  int
		to    int
		moved string
	}{{0, 0, "3+4+5+2"}, {3, 3, "3+4+5+2"}, {1, 1, "3+4+5+2"}, {0, 3, "4+5+2+3"}, {3, 0, "2+3+4+5"}, {1, 2, "3+5+4+2"}, {2, 1, "3+5+4+2"}, {0, 1, "4+3+5+2"}, {0, 2, "4+5+3+2"}} {
		moved, ok := impl.MoveChapter([]int{3, 4, 5, 2}, c.from, c.to)
		text, fine := impl.ChaptersText(moved)
		expect(t, call("MoveChapter", c.from, c.to), got(text, ok, fine), got(c.moved, true, true))
	}
	moved, ok := impl.MoveChapter([]int{7}, 0, 0)
	expect(t, "MoveChapter of a single chapter", got(moved, ok), got([]int{7}, true))
}

func TestChaptersKeepTheirMemory(t *testing.T) {
	room := []int{3, 4, 5, 2, 99, 98}
	chapters := room[:4]
	for name, list := range map[string]func() []int{
		"BeginningsOf":               func() []int { l, _ := impl.BeginningsOf(chapters, true); return l },
		"BeginningsOf on any":        func() []int { l, _ := impl.BeginningsOf(chapters, false); return l },
		"BlanksOf":                   func() []int { l, _ := impl.BlanksOf(chapters, true); return l },
		"FirstFewestBlanks":          func() []int { l, _ := impl.FirstFewestBlanks(chapters); return l },
		"MoveChapter":                func() []int { l, _ := impl.MoveChapter(chapters, 0, 2); return l },
		"MoveChapter to the end":     func() []int { l, _ := impl.MoveChapter(chapters, 0, 3); return l },
		"MoveChapter where it was":   func() []int { l, _ := impl.MoveChapter(chapters, 1, 1); return l },
		"FirstVolumes":               func() []int { l, _ := impl.FirstVolumes(chapters, 2); return l },
		"FirstVolumes of all":        func() []int { l, _ := impl.FirstVolumes(chapters, 4); return l },
		"ParseChapters of some text": func() []int { l, _ := impl.ParseChapters("3+4+5+2"); return l },
	} {
		wantOwnMemory(t, name, list, room, -1)
	}
	titles := []string{"Nuts", "Oats", "Peas", "Rye", "Figs", "Dill"}
	lines, _ := impl.ContentsOf(titles[:4], chapters, true, 12)
	before := got(lines)
	lines[0] = "changed"
	_ = append(lines, "more")
	again, ok := impl.ContentsOf(titles[:4], chapters, true, 12)
	expect(t, "a second ContentsOf", got(again), before)
	expect(t, "ContentsOf", ok, true)
	expect(t, "the titles", titles, []string{"Nuts", "Oats", "Peas", "Rye", "Figs", "Dill"})
	impl.AreChapters(chapters)
	impl.PagesOfChapters(chapters, true)
	impl.ChapterOfPage(chapters, true, 6)
	impl.FewestBlanks(chapters)
	impl.CountFewestBlanks(chapters)
	impl.LongestChapter(chapters)
	impl.LeastVolume(chapters, 2)
	impl.FewestVolumes(chapters, 7)
	impl.ChaptersText(chapters)
	expect(t, "the room of chapters", got(room), got([]int{3, 4, 5, 2, 99, 98}))
}

func TestPlacersEnd(t *testing.T) {
	chapters := slices.Repeat([]int{119}, impl.MaxChapters)
	wantNoneLeft(t, func() {
		impl.BeginningsOf(chapters, true)
		impl.BlanksOf(chapters, false)
		impl.PagesOfChapters(chapters[:1], true)
		impl.ChapterOfPage(chapters, true, 1)
	})
}

func chaptersText(t *testing.T, chapters []int) {
	t.Helper()
	want := ""
	for k, pages := range chapters {
		if k > 0 {
			want += "+"
		}
		want += strconv.Itoa(pages)
	}
	text, ok := impl.ChaptersText(chapters)
	expect(t, call("ChaptersText", chapters), got(text, ok), got(want, true))
	parsed, ok := impl.ParseChapters(want)
	expect(t, call("ParseChapters", want), got(parsed, ok), got(chapters, true))
}

func TestChaptersTexts(t *testing.T) {
	for _, chapters := range append(allChapters(4, 3), longChapters()...) {
		chaptersText(t, chapters)
	}
	for pages := 1; pages <= impl.MaxChapter; pages++ {
		chaptersText(t, []int{pages})
		chaptersText(t, []int{120, 120, 120, 120, 120, pages, 120, 120, 120, 120, 120, 120})
	}
	chapters, ok := impl.ParseChapters("120+120+120+120+120+120+120+120+120+120+120+120")
	expect(t, "ParseChapters of the longest text", got(chapters, ok), got(slices.Repeat([]int{120}, 12), true))
	chapters, ok = impl.ParseChapters("1")
	expect(t, "ParseChapters of the shortest text", got(chapters, ok), got([]int{1}, true))
}
