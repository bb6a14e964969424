package tests

import (
	"slices"
	"strings"
	"testing"

	"loop.example/g01394/impl"
)

// plainLines is one way to set words in lines: how many each line has, and what it needs.
type plainLines struct{ lines, widths []int }

// allLines returns all lists of lines of so many words, in order.
func allLines(words int) [][]int {
	if words == 0 {
		return [][]int{{}}
	}
	var all [][]int
	for first := 1; first <= words; first++ {
		for _, behind := range allLines(words - first) {
			all = append(all, append([]int{first}, behind...))
		}
	}
	return all
}

// letters writes words of so many letters each, with blanks between them.
func letters(words []int) string {
	var texts []string
	for _, long := range words {
		texts = append(texts, strings.Repeat("x", long))
	}
	return strings.Join(texts, " ")
}

func plainWidths(words, lines []int) []int {
	var widths []int
	for _, many := range lines {
		widths = append(widths, len(letters(words[:many])))
		words = words[many:]
	}
	return widths
}

func allPlainLines(words []int) []plainLines {
	var all []plainLines
	for _, lines := range allLines(len(words)) {
		all = append(all, plainLines{lines, plainWidths(words, lines)})
	}
	return all
}

func (p plainLines) fit(wide int) bool { return slices.Max(p.widths) <= wide }

// rests has those of all lines but the last one.
func (p plainLines) rests(wide int) []int {
	var rests []int
	for _, width := range p.widths[:len(p.widths)-1] {
		rests = append(rests, wide-width)
	}
	return rests
}

func (p plainLines) ragged(wide int) int {
	cost := 0
	for _, rest := range p.rests(wide) {
		cost += rest * rest
	}
	return cost
}

func (p plainLines) worst(wide int) int { return slices.Max(append(p.rests(wide), 0)) }

// allWords returns all lists of up to so many words with 1 up to longest letters.
func allWords(many, longest int) [][]int { return allChapters(many, longest) }

// longWords has lists of several words of very different lengths, and of nearly the same.
func longWords(least, most int) [][]int {
	return mixedLists(least, most, 3, 1, 2, 5, 12, 40, impl.MaxWide)
}

func TestLineExample(t *testing.T) {
	words := []int{3, 2, 5, 1, 4}
	lines, ok := impl.FillLines(words, 8)
	expect(t, "FillLines", got(lines, ok), got([]int{2, 2, 1}, true))
	n, ok := impl.CountLines(words, 8)
	expect(t, "CountLines", got(n, ok), got(3, true))
	n, ok = impl.RaggedOf(words, 8, lines)
	expect(t, "RaggedOf", got(n, ok), got(5, true))
	n, ok = impl.LeastRagged(words, 8)
	expect(t, "LeastRagged", got(n, ok), got(5, true))
	widths, ok := impl.WidthsUsed(words, lines)
	expect(t, "WidthsUsed", got(widths, ok), got([]int{6, 7, 4}, true))
	n, ok = impl.LeastWidth(words, 2)
	expect(t, "LeastWidth", got(n, ok), got(12, true))
	n, ok = impl.CountBreaks(words, 8)
	expect(t, "CountBreaks", got(n, ok), got(8, true))
}

func TestLimitsOfLines(t *testing.T) {
	expect(t, "the limits", got(impl.MaxWords, impl.MaxWide, impl.MaxParagraphs, impl.MaxLinesOfPage), got(30, 80, 12, 60))
}

func TestAreWords(t *testing.T) {
	for long := 1; long <= impl.MaxWide; long++ {
		for _, words := range [][]int{{long}, {long, 1}, {80, long}, {1, long, 80}, slices.Repeat([]int{long}, impl.MaxWords)} {
			expect(t, call("AreWords", words), impl.AreWords(words), true)
		}
	}
	for many := 1; many <= impl.MaxWords; many++ {
		for _, long := range []int{1, 7, 80} {
			words := slices.Repeat([]int{long}, many)
			expect(t, call("AreWords", words), impl.AreWords(words), true)
		}
	}
	for _, none := range noWords() {
		expect(t, call("AreWords", len(none), none), impl.AreWords(none), false)
	}
}

// wantLeast compares what is told of all lines with the lines that fit, one by one.
func wantLeast(t *testing.T, words []int, wide int, all []plainLines) {
	t.Helper()
	var fit []plainLines
	for _, p := range all {
		if p.fit(wide) {
			fit = append(fit, p)
		}
	}
	if len(fit) == 0 {
		failsForWide(t, words, wide)
		return
	}
	best, worst, fewest := fit[0], fit[0].worst(wide), len(words)
	for _, p := range fit {
		if p.ragged(wide) < best.ragged(wide) {
			best = p
		}
		worst, fewest = min(worst, p.worst(wide)), min(fewest, len(p.lines))
	}
	// Filled lines take the most words at first, so they come behind all others in order.
	filled := fit[len(fit)-1]
	wantLines(t, words, wide, setting{filled.lines, best.lines, fewest, best.ragged(wide), worst, len(fit)})
}

// setting is what is expected of words in lines of one width.
type setting struct {
	filled, first                []int
	fewest, ragged, worst, lists int
}

func wantLines(t *testing.T, words []int, wide int, want setting) {
	t.Helper()
	filled, ok := impl.FillLines(words, wide)
	expect(t, call("FillLines", words, wide), got(filled, ok), got(want.filled, true))
	n, ok := impl.CountLines(words, wide)
	expect(t, call("CountLines", words, wide), got(n, ok), got(want.fewest, true))
	n, ok = impl.LeastRagged(words, wide)
	expect(t, call("LeastRagged", words, wide), got(n, ok), got(want.ragged, true))
	first, ok := impl.FirstLeastRagged(words, wide)
	expect(t, call("FirstLeastRagged", words, wide), got(first, ok), got(want.first, true))
	n, ok = impl.RaggedOf(words, wide, first)
	expect(t, call("RaggedOf", words, wide, first), got(n, ok), got(want.ragged, true))
	n, ok = impl.LeastWorst(words, wide)
	expect(t, call("LeastWorst", words, wide), got(n, ok), got(want.worst, true))
	n, ok = impl.CountBreaks(words, wide)
	expect(t, call("CountBreaks", words, wide), got(n, ok), got(want.lists, true))
}

func failsForWide(t *testing.T, words []int, wide int) {
	t.Helper()
	for name, function := range map[string]any{"FillLines": impl.FillLines, "CountLines": impl.CountLines, "LeastRagged": impl.LeastRagged, "FirstLeastRagged": impl.FirstLeastRagged, "LeastWorst": impl.LeastWorst, "CountBreaks": impl.CountBreaks} {
		wantZero(t, name, function, words, wide)
	}
}

func TestLinesOfFewWords(t *testing.T) {
	for _, words := range allWords(5, 4) {
		all := allPlainLines(words)
		for wide := 1; wide <= 25; wide++ {
			wantLeast(t, words, wide, all)
		}
		wantLeast(t, words, impl.MaxWide, all)
	}
}

func TestLinesOfSeveralWords(t *testing.T) {
	for _, words := range longWords(6, 9) {
		all := allPlainLines(words)
		for wide := 1; wide <= impl.MaxWide; wide++ {
			wantLeast(t, words, wide, all)
		}
	}
}

// TestNoLinesCostLess holds promise 7 against the calls themselves.
func TestNoLinesCostLess(t *testing.T) {
	for _, words := range append(allWords(5, 3), longWords(7, 8)...) {
		all := allPlainLines(words)
		for _, wide := range []int{1, 2, 3, 5, 8, 13, 14, 15, 40, 79, impl.MaxWide} {
			least, can := impl.LeastRagged(words, wide)
			first, _ := impl.FirstLeastRagged(words, wide)
			most, _ := impl.CountBreaks(words, wide)
			fit := 0
			for _, p := range all {
				cost, ok := impl.RaggedOf(words, wide, p.lines)
				switch {
				case !ok:
					continue
				case !can || cost < least:
					t.Errorf("%v in %d costs %d, less than %d", p.lines, wide, cost, least)
				case cost == least && slices.Compare(p.lines, first) < 0:
					t.Errorf("%v comes before %v in %d", p.lines, first, wide)
				}
				fit++
			}
			expect(t, call("CountBreaks", words, wide), most, fit)
		}
	}
}

// TestRaggedOf looks at each list of lines, whether it fits or not.
func TestRaggedOf(t *testing.T) {
	for _, words := range append(allWords(4, 3), longWords(6, 7)...) {
		for _, p := range allPlainLines(words) {
			widths, ok := impl.WidthsUsed(words, p.lines)
			expect(t, call("WidthsUsed", words, p.lines), got(widths, ok), got(p.widths, true))
			needed := slices.Max(p.widths)
			for _, wide := range []int{1, 2, 3, 4, 5, 9, 40, 79, 80, needed - 1, needed, needed + 1} {
				if !p.fit(wide) || wide > impl.MaxWide {
					wantZero(t, "RaggedOf", impl.RaggedOf, words, wide, p.lines)
					continue
				}
				n, ok := impl.RaggedOf(words, wide, p.lines)
				expect(t, call("RaggedOf", words, wide, p.lines), got(n, ok), got(p.ragged(wide), true))
			}
		}
	}
}

func TestLeastWidth(t *testing.T) {
	for _, words := range append(allWords(5, 3), longWords(6, 9)...) {
		all := allPlainLines(words)
		for lines := 1; lines <= impl.MaxWords; lines++ {
			least := impl.MaxWide + 1
			for _, p := range all {
				if len(p.lines) <= lines {
					least = min(least, slices.Max(p.widths))
				}
			}
			if least > impl.MaxWide {
				wantZero(t, "LeastWidth", impl.LeastWidth, words, lines)
				continue
			}
			n, ok := impl.LeastWidth(words, lines)
			expect(t, call("LeastWidth", words, lines), got(n, ok), got(least, true))
		}
	}
}

func TestLeastWidthByHand(t *testing.T) {
	for _, c := range []struct {
		words       []int
		lines, wide int
	}{
		{[]int{1}, 1, 1}, {[]int{1}, 30, 1}, {[]int{80}, 1, 80}, {[]int{80}, 30, 80}, {[]int{3, 2, 5, 1, 4}, 1, 19}, {[]int{3, 2, 5, 1, 4}, 3, 6}, {[]int{3, 2, 5, 1, 4}, 4, 6}, {[]int{3, 2, 5, 1, 4}, 5, 5}, {[]int{3, 2, 5, 1, 4}, 6, 5}, {[]int{3, 2, 5, 1, 4}, 30, 5},
		{slices.Repeat([]int{1}, 30), 1, 59}, {slices.Repeat([]int{1}, 30), 2, 29}, {slices.Repeat([]int{1}, 30), 29, 3}, {slices.Repeat([]int{1}, 30), 30, 1}, {slices.Repeat([]int{80}, 30), 30, 80},
		// Just as wide as a line can be.
		{[]int{40, 39}, 1, 80}, {[]int{78, 1}, 1, 80}, {[]int{40, 39, 40, 39}, 2, 80},
	} {
		n, ok := impl.LeastWidth(c.words, c.lines)
		expect(t, call("LeastWidth", c.words, c.lines), got(n, ok), got(c.wide, true))
	}
	for _, c := range []struct {
		words []int
		lines int
	}{{[]int{40, 40}, 1}, {[]int{80, 1}, 1}, {[]int{40, 39, 40, 39}, 1}, {[]int{40, 40, 39, 39}, 2}, {slices.Repeat([]int{80}, 30), 29}, {slices.Repeat([]int{80}, 30), 1}} {
		wantZero(t, "LeastWidth", impl.LeastWidth, c.words, c.lines)
	}
}

func TestLinesByHand(t *testing.T) {
	ones := slices.Repeat([]int{1}, impl.MaxWords)
	for _, c := range []struct {
		words []int
		wide  int
		want  setting
	}{
		// One word alone: nothing counts but the last line.
		{[]int{1}, 1, setting{[]int{1}, []int{1}, 1, 0, 0, 1}}, {[]int{1}, 80, setting{[]int{1}, []int{1}, 1, 0, 0, 1}}, {[]int{80}, 80, setting{[]int{1}, []int{1}, 1, 0, 0, 1}},
		// Lines that are single words, with a rest and without.
		{[]int{3, 3, 3}, 3, setting{[]int{1, 1, 1}, []int{1, 1, 1}, 3, 0, 0, 1}}, {[]int{3, 3, 3}, 6, setting{[]int{1, 1, 1}, []int{1, 1, 1}, 3, 18, 3, 1}}, {[]int{80, 80}, 80, setting{[]int{1, 1}, []int{1, 1}, 2, 0, 0, 1}}, {[]int{1, 80, 1}, 80, setting{[]int{1, 1, 1}, []int{1, 1, 1}, 3, 6241, 79, 1}},
		// A line that is just wide enough, and one that lacks a blank.
		{[]int{4, 3}, 8, setting{[]int{2}, []int{2}, 1, 0, 0, 2}}, {[]int{4, 3}, 7, setting{[]int{1, 1}, []int{1, 1}, 2, 9, 3, 1}},
		// The last line may be as short as it will.
		{[]int{5, 1}, 5, setting{[]int{1, 1}, []int{1, 1}, 2, 0, 0, 1}}, {[]int{79, 1, 80, 1}, 80, setting{[]int{1, 1, 1, 1}, []int{1, 1, 1, 1}, 4, 6242, 79, 1}},
		// Filled lines are not the least ragged ones.
		{[]int{3, 2, 2, 5}, 6, setting{[]int{2, 1, 1}, []int{1, 2, 1}, 3, 10, 3, 3}},
		// Lines with the same cost.
		{[]int{2, 2, 2, 6}, 6, setting{[]int{2, 1, 1}, []int{1, 2, 1}, 3, 17, 4, 3}}, {[]int{1, 1, 1, 3}, 4, setting{[]int{2, 1, 1}, []int{1, 2, 1}, 3, 10, 3, 3}},
		// Thirty words.
		{ones, 1, setting{slices.Repeat([]int{1}, 30), slices.Repeat([]int{1}, 30), 30, 0, 0, 1}}, {ones, 3, setting{slices.Repeat([]int{2}, 15), slices.Repeat([]int{2}, 15), 15, 0, 0, 1346269}}, {ones, 58, setting{[]int{29, 1}, []int{29, 1}, 2, 1, 1, 1<<29 - 1}}, {ones, 59, setting{[]int{30}, []int{30}, 1, 0, 0, 1 << 29}}, {ones, 80, setting{[]int{30}, []int{30}, 1, 0, 0, 1 << 29}}, {slices.Repeat([]int{80}, 30), 80, setting{slices.Repeat([]int{1}, 30), slices.Repeat([]int{1}, 30), 30, 0, 0, 1}}, {slices.Repeat([]int{40}, 30), 80, setting{slices.Repeat([]int{1}, 30), slices.Repeat([]int{1}, 30), 30, 29 * 1600, 40, 1}},
	} {
		wantLines(t, c.words, c.wide, c.want)
	}
	// One word is longer than wide: the first one, one between, the last one.
	for _, words := range [][]int{{6}, {6, 1, 1}, {1, 6, 1}, {1, 1, 6}, {80, 80}} {
		failsForWide(t, words, 5)
		wantZero(t, "RaggedOf", impl.RaggedOf, words, 5, slices.Repeat([]int{1}, len(words)))
	}
}

func TestRaggedByHand(t *testing.T) {
	words := []int{3, 2, 5, 1, 4}
	for _, c := range []struct {
		lines  []int
		cost   int
		widths []int
	}{
		{[]int{1, 1, 1, 1, 1}, 25 + 36 + 9 + 49, []int{3, 2, 5, 1, 4}}, {[]int{2, 2, 1}, 5, []int{6, 7, 4}}, {[]int{2, 1, 2}, 4 + 9, []int{6, 5, 6}}, {[]int{1, 2, 2}, 25, []int{3, 8, 6}},
	} {
		n, ok := impl.RaggedOf(words, 8, c.lines)
		expect(t, call("RaggedOf", c.lines), got(n, ok), got(c.cost, true))
		widths, ok := impl.WidthsUsed(words, c.lines)
		expect(t, call("WidthsUsed", c.lines), got(widths, ok), got(c.widths, true))
	}
	// The first line, one between or the last one does not fit.
	for _, lines := range [][]int{{3, 1, 1}, {3, 2}, {1, 3, 1}, {1, 1, 3}, {2, 3}, {5}} {
		wantZero(t, "RaggedOf", impl.RaggedOf, words, 8, lines)
	}
	// What lines need may be more than any line can be wide.
	widths, ok := impl.WidthsUsed(slices.Repeat([]int{80}, 30), []int{30})
	expect(t, "WidthsUsed of the longest line", got(widths, ok), got([]int{2429}, true))
	widths, ok = impl.WidthsUsed([]int{80, 80, 1}, []int{2, 1})
	expect(t, "WidthsUsed of a long line", got(widths, ok), got([]int{161, 1}, true))
	n, ok := impl.RaggedOf([]int{1, 80}, 80, []int{1, 1})
	expect(t, "RaggedOf a great rest", got(n, ok), got(6241, true))
}

// frontLines sets words from the front: for each number of words it has the cheapest lines, all of which count, the first of several, and how many there are.
type frontLines struct {
	lines       []int
	cost, lists int
}

func fromFront(words []int, wide int, add func(cost, rest int) int) setting {
	front := make([]frontLines, len(words)+1)
	front[0].lists = 1
	for end := 1; end <= len(words); end++ {
		for begin := range end {
			rest := wide - len(letters(words[begin:end]))
			if front[begin].lists == 0 || rest < 0 {
				continue
			}
			if end == len(words) {
				// The last line does not count.
				rest = 0
			}
			next := frontLines{append(slices.Clone(front[begin].lines), end-begin), add(front[begin].cost, rest), 0}
			is := &front[end]
			next.lists = is.lists + front[begin].lists
			if is.lists > 0 && (is.cost < next.cost || is.cost == next.cost && slices.Compare(is.lines, next.lines) < 0) {
				next.lines, next.cost = is.lines, is.cost
			}
			*is = next
		}
	}
	last := front[len(words)]
	return setting{first: last.lines, ragged: last.cost, lists: last.lists}
}

// filledByHand adds words to a line as long as there is room.
func filledByHand(words []int, wide int) []int {
	var lines []int
	room := 0
	for _, long := range words {
		if room < 1+long {
			lines = append(lines, 0)
			room = wide + 1
		}
		lines[len(lines)-1]++
		room -= 1 + long
	}
	return lines
}

func TestLinesOfManyWords(t *testing.T) {
	for _, words := range longWords(28, impl.MaxWords) {
		for _, wide := range []int{1, 2, 3, 4, 5, 8, 12, 13, 27, 40, 41, 66, 79, 80} {
			if slices.Max(words) > wide {
				failsForWide(t, words, wide)
				continue
			}
			want := fromFront(words, wide, func(cost, rest int) int { return cost + rest*rest })
			want.worst = fromFront(words, wide, func(cost, rest int) int { return max(cost, rest) }).ragged
			want.filled = filledByHand(words, wide)
			want.fewest = fromFront(words, wide, func(cost, _ int) int { return cost + 1 }).ragged
			wantLines(t, words, wide, want)
		}
	}
}

func TestLinesAreNew(t *testing.T) {
	wordRoom := []int{3, 2, 5, 1, 4, 99, 98}
	lineRoom := []int{2, 2, 1, 97, 96}
	words, lines := wordRoom[:5], lineRoom[:3]
	rooms := [][]int{wordRoom, lineRoom}
	for name, list := range map[string]func() []int{
		"FillLines":            func() []int { l, _ := impl.FillLines(words, 8); return l },
		"FillLines of one":     func() []int { l, _ := impl.FillLines(words, 80); return l },
		"FirstLeastRagged":     func() []int { l, _ := impl.FirstLeastRagged(words, 8); return l },
		"WidthsUsed":           func() []int { l, _ := impl.WidthsUsed(words, lines); return l },
		"WidthsUsed of words":  func() []int { l, _ := impl.WidthsUsed(words, []int{1, 1, 1, 1, 1}); return l },
		"StretchSpaces":        func() []int { l, _ := impl.StretchSpaces(words, 30); return l },
		"StretchSpaces of two": func() []int { l, _ := impl.StretchSpaces(words[:2], 6); return l },
		"WordsOfText":          func() []int { l, _ := impl.WordsOfText("one two"); return l },
	} {
		wantOwnMemory(t, name, list, rooms, -1)
	}
	impl.AreWords(words)
	impl.CountLines(words, 8)
	impl.RaggedOf(words, 8, lines)
	impl.LeastRagged(words, 8)
	impl.LeastWorst(words, 8)
	impl.LeastWidth(words, 2)
	impl.CountBreaks(words, 8)
	expect(t, "the rooms", got(rooms), got([][]int{{3, 2, 5, 1, 4, 99, 98}, {2, 2, 1, 97, 96}}))
}

func TestLookersEnd(t *testing.T) {
	words := slices.Repeat([]int{1}, 8)
	wantNoneLeft(t, func() {
		impl.LeastRagged(words, 9)
		impl.FirstLeastRagged(words, 80)
		impl.LeastWorst(words, 1)
	})
}
