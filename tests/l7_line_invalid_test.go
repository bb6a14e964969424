package tests

import (
	"math"
	"slices"
	"strings"
	"testing"

	"loop.example/g01394/impl"
)

// noWords has lists with one length out of its bounds, at each end and between, or with too many or too few.
func noWords() [][]int {
	none := [][]int{nil, {}, slices.Repeat([]int{1}, 31), slices.Repeat([]int{80}, 31), slices.Repeat([]int{2}, 100000), make([]int, 30), {math.MaxInt, math.MaxInt}, {math.MinInt, math.MinInt}, {math.MaxInt, math.MinInt, 3}}
	for _, n := range append(outside(1, impl.MaxWide), 0) {
		none = append(none, []int{n}, []int{n, 2, 5, 1}, []int{3, n, 5, 1}, []int{3, 2, 5, n}, append(slices.Repeat([]int{80}, 29), n), append([]int{n}, slices.Repeat([]int{1}, 29)...))
	}
	return none
}

func failsForWords(t *testing.T, words []int, wide int) {
	t.Helper()
	failsForWide(t, words, wide)
	wantZero(t, "StretchSpaces", impl.StretchSpaces, words, wide)
	for _, lines := range [][]int{nil, {1}, {len(words)}, slices.Repeat([]int{1}, min(len(words), 50))} {
		wantZero(t, "RaggedOf", impl.RaggedOf, words, wide, lines)
	}
}

func TestNoWords(t *testing.T) {
	for _, none := range noWords() {
		for _, wide := range []int{0, 1, 8, impl.MaxWide} {
			failsForWords(t, none, wide)
		}
		for _, lines := range []int{1, 2, impl.MaxWords} {
			wantZero(t, "LeastWidth", impl.LeastWidth, none, lines)
		}
		for _, lines := range [][]int{nil, {1}, {len(none)}, slices.Repeat([]int{1}, min(len(none), 50))} {
			wantZero(t, "WidthsUsed", impl.WidthsUsed, none, lines)
		}
	}
}

func TestInvalidWidthsOfLines(t *testing.T) {
	for _, words := range append(longWords(1, 3), slices.Repeat([]int{1}, impl.MaxWords)) {
		for _, wide := range append(outside(1, impl.MaxWide), 0) {
			failsForWords(t, words, wide)
		}
		for _, lines := range append(outside(1, impl.MaxWords), 0) {
			wantZero(t, "LeastWidth", impl.LeastWidth, words, lines)
		}
	}
	for _, text := range []string{"a", "odd", "one two", letters(slices.Repeat([]int{1}, 30))} {
		for _, wide := range append(outside(1, impl.MaxWide), 0) {
			for name, function := range map[string]any{"SetText": impl.SetText, "StretchText": impl.StretchText, "CentreText": impl.CentreText} {
				wantZero(t, name, function, text, wide)
			}
		}
	}
}

// noLines has lists that are no lines of four words: with too many or too few of them, or with a line of none.
func noLines() [][]int {
	none := [][]int{nil, {}, {1}, {3}, {5}, {1, 1}, {1, 2}, {2, 3}, {4, 1}, {1, 4}, {1, 1, 1}, {1, 1, 1, 2}, {1, 1, 1, 1, 1}, {2, 2, 1}, {2, 0, 2}, {0, 4}, {4, 0}, {0, 1, 3}, {1, 3, 0}, {5, -1}, {-1, 5}, {2, -1, 3}, {3, 2, -1}, make([]int, 4), slices.Repeat([]int{1}, 100000), append([]int{4}, make([]int, 100000)...)}
	for _, n := range outside(0, 4) {
		// Some of these make four in all if they wrap around.
		none = append(none, []int{n}, []int{n, 4}, []int{4, n}, []int{n, 4 - n}, []int{4 - n, n}, []int{2, n, 2 - n}, []int{n, n, 4 - n - n}, []int{n, n, n, n})
	}
	return none
}

func TestNoLines(t *testing.T) {
	// The room behind the words has more of them.
	words := []int{1, 2, 1, 1, 1, 1, 1, 1}[:4]
	for _, none := range noLines() {
		wantZero(t, "WidthsUsed", impl.WidthsUsed, words, none)
		for _, wide := range []int{2, 8, impl.MaxWide} {
			wantZero(t, "RaggedOf", impl.RaggedOf, words, wide, none)
		}
	}
}

func noTexts() []string {
	texts := []string{"", " ", "  ", " a", "a ", "a  b", " a b", "a b ", "a b  c", "a\tb", "a\nb", "a\n", "\n", "a\u00a0b", "é", "Nüts", "a é", "\xff", "a\xff", "\x80 b", "a \xc3", "\x00", "\x1f", "\x7f", "ａ", "a\u2003b"}
	for _, long := range []int{201, 202, 1000, 100000} {
		texts = append(texts, strings.Repeat("a", long), strings.Repeat(" ", long), strings.Repeat("a ", long/2)+"a", strings.Repeat("\xff", long), strings.Repeat("abc ", 50)+strings.Repeat("b", long-200))
	}
	return texts
}

func TestNoTexts(t *testing.T) {
	for _, text := range noTexts() {
		wantZero(t, "WordsOfText", impl.WordsOfText, text)
		for _, wide := range []int{0, 1, 5, impl.MaxWide} {
			for name, function := range map[string]any{"SetText": impl.SetText, "StretchText": impl.StretchText, "CentreText": impl.CentreText} {
				wantZero(t, name, function, text, wide)
			}
		}
	}
}

// noParagraphs has lists with one number out of its bounds, at each end and between, or with too many or too few.
func noParagraphs() [][]int {
	none := [][]int{nil, {}, slices.Repeat([]int{1}, 13), slices.Repeat([]int{60}, 13), slices.Repeat([]int{4}, 100000), make([]int, 12), {math.MaxInt, math.MaxInt}, {math.MinInt, math.MinInt}}
	for _, n := range append(outside(1, impl.MaxLinesOfPage), 0) {
		none = append(none, []int{n}, []int{n, 4}, []int{4, n}, []int{2, n, 2}, append(slices.Repeat([]int{60}, 11), n), append([]int{n}, slices.Repeat([]int{1}, 11)...))
	}
	return none
}

func TestNoParagraphs(t *testing.T) {
	for _, none := range noParagraphs() {
		for _, lines := range []int{0, 1, 2, 4, impl.MaxLinesOfPage} {
			failsForParagraphs(t, none, lines)
			wantZero(t, "BreaksAllowed", impl.BreaksAllowed, none, lines)
		}
	}
	for _, paragraphs := range longParagraphs() {
		for _, lines := range append(outside(2, impl.MaxLinesOfPage), 0) {
			failsForParagraphs(t, paragraphs, lines)
			wantZero(t, "BreaksAllowed", impl.BreaksAllowed, paragraphs, lines)
		}
	}
}

func TestAnyLines(t *testing.T) {
	good := []int{3, 2, 5, 1, 4}
	for _, a := range anyNumbers() {
		for _, text := range []string{"a", "one two", "of all the lines", " a"} {
			checkZero(t, "SetText", impl.SetText, text, a)
			checkZero(t, "StretchText", impl.StretchText, text, a)
			checkZero(t, "CentreText", impl.CentreText, text, a)
		}
		for _, b := range anyNumbers() {
			for _, words := range [][]int{good, {a, 2}, {a, b, 2}} {
				for name, function := range map[string]any{"FillLines": impl.FillLines, "CountLines": impl.CountLines, "LeastRagged": impl.LeastRagged, "FirstLeastRagged": impl.FirstLeastRagged, "LeastWorst": impl.LeastWorst, "CountBreaks": impl.CountBreaks, "LeastWidth": impl.LeastWidth, "StretchSpaces": impl.StretchSpaces} {
					checkZero(t, name, function, words, b)
				}
				checkZero(t, "RaggedOf", impl.RaggedOf, words, b, []int{1, a})
				checkZero(t, "WidthsUsed", impl.WidthsUsed, words, []int{a, b})
			}
			for name, function := range map[string]any{"ParagraphBreaks": impl.ParagraphBreaks, "BreaksAllowed": impl.BreaksAllowed, "PagesOfParagraphs": impl.PagesOfParagraphs, "LinesLeftOver": impl.LinesLeftOver} {
				checkZero(t, name, function, []int{a, 4}, b)
				checkZero(t, name, function, []int{4, a, b}, a)
			}
		}
	}
}
