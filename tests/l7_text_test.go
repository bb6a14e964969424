package tests

import (
	"slices"
	"strings"
	"testing"

	"loop.example/g01394/impl"
)

// isPlainText compares a text with its words, joined again by one blank each.
func isPlainText(text string) bool {
	for k := range len(text) {
		if text[k] < ' ' || text[k] > '~' {
			return false
		}
	}
	return text != "" && len(text) <= 200 && strings.Join(strings.Fields(text), " ") == text
}

func plainLengths(text string) []int {
	var lengths []int
	for _, word := range strings.Fields(text) {
		lengths = append(lengths, len(word))
	}
	return lengths
}

// plainSet adds words to a line until it is too long.
func plainSet(text string, wide int) []string {
	var lines []string
	for _, word := range strings.Fields(text) {
		last := len(lines) - 1
		if last >= 0 && len(lines[last]+" "+word) <= wide {
			lines[last] += " " + word
		} else {
			lines = append(lines, word)
		}
	}
	return lines
}

// plainBlanksBetween adds one blank after the other, from the first place on, and again from there, until nothing is left.
func plainBlanksBetween(words []int, wide int) []int {
	spaces := slices.Repeat([]int{1}, len(words)-1)
	for k := range wide - len(letters(words)) {
		spaces[k%len(spaces)]++
	}
	return spaces
}

func plainStretched(text string, wide int) string {
	stretched := ""
	for k, word := range strings.Fields(text) {
		if k > 0 {
			stretched += strings.Repeat(" ", plainBlanksBetween(plainLengths(text), wide)[k-1])
		}
		stretched += word
	}
	return stretched
}

// plainCentred adds a blank behind and one before, in turn.
func plainCentred(text string, wide int) string {
	for behind := true; len(text) < wide; behind = !behind {
		if behind {
			text += " "
		} else {
			text = " " + text
		}
	}
	return text
}

func wantWords(t *testing.T, text string) {
	t.Helper()
	lengths := plainLengths(text)
	if !isPlainText(text) || len(lengths) > impl.MaxWords || slices.Max(lengths) > impl.MaxWide {
		wantZero(t, "WordsOfText", impl.WordsOfText, text)
		return
	}
	words, ok := impl.WordsOfText(text)
	expect(t, call("WordsOfText", text), got(words, ok), got(lengths, true))
}

func wantSetText(t *testing.T, text string, wide int) {
	t.Helper()
	lengths := plainLengths(text)
	isLine := isPlainText(text) && wide >= 1 && wide <= impl.MaxWide
	if !isLine || len(lengths) > impl.MaxWords || slices.Max(lengths) > wide {
		wantZero(t, "SetText", impl.SetText, text, wide)
	} else {
		lines, ok := impl.SetText(text, wide)
		expect(t, call("SetText", text, wide), got(lines, ok), got(plainSet(text, wide), true))
	}
	if !isLine || len(lengths) > impl.MaxWords || len(lengths) == 1 || len(text) > wide {
		wantZero(t, "StretchText", impl.StretchText, text, wide)
	} else {
		stretched, ok := impl.StretchText(text, wide)
		expect(t, call("StretchText", text, wide), got(stretched, ok), got(plainStretched(text, wide), true))
	}
	if !isLine || len(text) > wide {
		wantZero(t, "CentreText", impl.CentreText, text, wide)
	} else {
		centred, ok := impl.CentreText(text, wide)
		expect(t, call("CentreText", text, wide), got(centred, ok), got(plainCentred(text, wide), true))
	}
}

// allTexts returns all strings of up to so many of some signs, the empty one, too.
func allTexts(long int, signs ...string) []string {
	all, texts := []string{""}, []string{""}
	for range long {
		var longer []string
		for _, text := range texts {
			for _, sign := range signs {
				longer = append(longer, text+sign)
			}
		}
		all = append(all, longer...)
		texts = longer
	}
	return all
}

// longTexts has texts of 200 signs or nearly so, some of one sign too many.
func longTexts() []string {
	var texts []string
	for _, words := range [][]int{
		{80, 80, 38}, {80, 80, 39}, {80, 80, 37}, {38, 80, 80}, {80, 38, 80}, {81}, {81, 1}, {1, 81}, {1, 81, 1}, {100, 99}, {100, 100}, {199}, {200}, {201}, {80}, {80, 80}, {1, 80}, {40, 39}, {78, 1}, {40, 40},
		slices.Repeat([]int{1}, 30), slices.Repeat([]int{1}, 31), slices.Repeat([]int{1}, 40), slices.Repeat([]int{1}, 41), slices.Repeat([]int{1}, 100), slices.Repeat([]int{1}, 101), slices.Repeat([]int{2}, 67),
		append(slices.Repeat([]int{6}, 28), 2, 1), append(slices.Repeat([]int{6}, 28), 2, 2), append(slices.Repeat([]int{5}, 29), 26), append(slices.Repeat([]int{5}, 29), 27), append(slices.Repeat([]int{2}, 30), 1),
	} {
		texts = append(texts, letters(words))
	}
	return texts
}

func TestTextExample(t *testing.T) {
	spaces, ok := impl.StretchSpaces([]int{3, 2, 1}, 10)
	expect(t, "StretchSpaces", got(spaces, ok), got([]int{2, 2}, true))
	text, ok := impl.CentreText("odd", 6)
	expect(t, "CentreText", got(text, ok), got(" odd  ", true))
}

func TestShortTexts(t *testing.T) {
	for _, text := range allTexts(7, "a", "~", " ") {
		wantWords(t, text)
		for wide := 0; wide <= 10; wide++ {
			wantSetText(t, text, wide)
		}
	}
}

func TestSignsOfTexts(t *testing.T) {
	for sign := range 256 {
		s := string([]byte{byte(sign)})
		for _, text := range []string{s, s + "dd", "o" + s + "d", "od" + s, s + " odd", "odd " + s, "odd" + s + "even", "o" + s + " " + s + "d"} {
			wantWords(t, text)
			wantSetText(t, text, 8)
			wantSetText(t, text, 5)
		}
	}
}

func TestLongTexts(t *testing.T) {
	lengths := map[int]int{}
	for _, text := range longTexts() {
		lengths[len(text)]++
		wantWords(t, text)
		for wide := 1; wide <= impl.MaxWide; wide++ {
			wantSetText(t, text, wide)
		}
	}
	expect(t, "texts of 200 signs and more", lengths[200] > 3 && lengths[201] > 1, true)
}

func TestTextsByHand(t *testing.T) {
	for _, c := range []struct {
		text  string
		words []int
	}{
		{"a", []int{1}}, {"~", []int{1}}, {"!", []int{1}}, {"one two", []int{3, 3}}, {"a b c", []int{1, 1, 1}}, {"odd, or not.", []int{4, 2, 4}}, {letters([]int{80, 80, 38}), []int{80, 80, 38}}, {letters(slices.Repeat([]int{1}, 30)), slices.Repeat([]int{1}, 30)},
	} {
		words, ok := impl.WordsOfText(c.text)
		expect(t, call("WordsOfText", c.text), got(words, ok), got(c.words, true))
	}
	for _, c := range []struct {
		text  string
		wide  int
		lines []string
	}{
		{"a", 1, []string{"a"}}, {"a", 80, []string{"a"}}, {"one two", 3, []string{"one", "two"}}, {"one two", 6, []string{"one", "two"}}, {"one two", 7, []string{"one two"}}, {"of all the lines", 6, []string{"of all", "the", "lines"}}, {"of all the lines", 9, []string{"of all", "the lines"}}, {"of all the lines", 10, []string{"of all the", "lines"}},
	} {
		lines, ok := impl.SetText(c.text, c.wide)
		expect(t, call("SetText", c.text, c.wide), got(lines, ok), got(c.lines, true))
	}
}

func TestStretchedByHand(t *testing.T) {
	for _, c := range []struct {
		text string
		wide int
		want string
	}{
		// Just wide already, and one blank more.
		{"a b", 3, "a b"}, {"a b", 4, "a  b"}, {"a b", 80, "a" + strings.Repeat(" ", 78) + "b"},
		// Blanks that are not shared out evenly: one more, one less.
		{"a b c", 6, "a  b c"}, {"a b c", 7, "a  b  c"}, {"a b c d", 8, "a  b c d"}, {"a b c d", 9, "a  b  c d"}, {"a b c d", 10, "a  b  c  d"}, {"a b c d", 11, "a   b  c  d"}, {"one of them", 13, "one  of  them"}, {"one of them", 12, "one  of them"},
	} {
		text, ok := impl.StretchText(c.text, c.wide)
		expect(t, call("StretchText", c.text, c.wide), got(text, ok), got(c.want, true))
	}
	for _, c := range []struct {
		text string
		wide int
		want string
	}{
		{"odd", 3, "odd"}, {"odd", 4, "odd "}, {"odd", 5, " odd "}, {"odd", 7, "  odd  "}, {"odd", 8, "  odd   "}, {"even", 5, "even "}, {"even", 6, " even "}, {"a", 1, "a"}, {"a", 2, "a "}, {"a", 80, strings.Repeat(" ", 39) + "a" + strings.Repeat(" ", 40)}, {"a b", 6, " a b  "},
		// There may be more words than can be set in lines.
		{letters(slices.Repeat([]int{1}, 40)), 79, letters(slices.Repeat([]int{1}, 40))}, {letters(slices.Repeat([]int{1}, 40)), 80, letters(slices.Repeat([]int{1}, 40)) + " "},
	} {
		text, ok := impl.CentreText(c.text, c.wide)
		expect(t, call("CentreText", c.text, c.wide), got(text, ok), got(c.want, true))
	}
	// One word alone has no blanks, even if it is just wide.
	for _, wide := range []int{1, 2, 3, 4, 80} {
		wantZero(t, "StretchText", impl.StretchText, "odd", wide)
		wantZero(t, "StretchSpaces", impl.StretchSpaces, []int{3}, wide)
	}
}

func TestStretchSpaces(t *testing.T) {
	for _, words := range append(allWords(5, 3), longWords(6, impl.MaxWords)...) {
		for wide := 1; wide <= impl.MaxWide; wide++ {
			if len(words) == 1 || len(letters(words)) > wide {
				wantZero(t, "StretchSpaces", impl.StretchSpaces, words, wide)
				continue
			}
			spaces, ok := impl.StretchSpaces(words, wide)
			expect(t, call("StretchSpaces", words, wide), got(spaces, ok), got(plainBlanksBetween(words, wide), true))
		}
	}
}

func TestStretchSpacesByHand(t *testing.T) {
	for _, c := range []struct {
		words  []int
		wide   int
		spaces []int
	}{
		{[]int{3, 2, 1}, 8, []int{1, 1}}, {[]int{3, 2, 1}, 9, []int{2, 1}}, {[]int{3, 2, 1}, 10, []int{2, 2}}, {[]int{3, 2, 1}, 11, []int{3, 2}}, {[]int{1, 1}, 3, []int{1}}, {[]int{1, 1}, 80, []int{78}}, {[]int{40, 39}, 80, []int{1}}, {[]int{1, 1, 1, 1, 1}, 14, []int{3, 2, 2, 2}}, {[]int{1, 1, 1, 1, 1}, 16, []int{3, 3, 3, 2}}, {slices.Repeat([]int{1}, 30), 59, slices.Repeat([]int{1}, 29)}, {slices.Repeat([]int{1}, 30), 80, append(slices.Repeat([]int{2}, 21), slices.Repeat([]int{1}, 8)...)},
	} {
		spaces, ok := impl.StretchSpaces(c.words, c.wide)
		expect(t, call("StretchSpaces", c.words, c.wide), got(spaces, ok), got(c.spaces, true))
	}
}

func TestSetTextIsNew(t *testing.T) {
	text := "of all the lines"
	wantOwnMemory(t, "SetText", func() []string { lines, _ := impl.SetText(text, 9); return lines }, text, "changed")
}
