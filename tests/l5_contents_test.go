package tests

import (
	"slices"
	"strconv"
	"strings"
	"testing"

	"loop.example/g01394/impl"
)

// plainLine adds dots one by one until the line is wide enough.
func plainLine(title string, page, wide int) (string, bool) {
	for dots := "."; ; dots += "." {
		line := title + " " + dots + " " + strconv.Itoa(page)
		if len(line) >= wide {
			return line, len(line) == wide
		}
	}
}

func wantLine(t *testing.T, title string, page, wide int) {
	t.Helper()
	want, fits := plainLine(title, page, wide)
	if !fits {
		wantZero(t, "ContentsLine", impl.ContentsLine, title, page, wide)
		return
	}
	line, ok := impl.ContentsLine(title, page, wide)
	expect(t, call("ContentsLine", title, page, wide), got(line, ok), got(want, true))
}

func TestContentsExample(t *testing.T) {
	line, ok := impl.ContentsLine("Nuts", 12, 12)
	expect(t, "ContentsLine", got(line, ok), got("Nuts .... 12", true))
	roman, ok := impl.RomanOf(94)
	expect(t, "RomanOf", got(roman, ok), got("xciv", true))
	n, letters, ok := impl.LongestRoman(50)
	expect(t, "LongestRoman", got(n, letters, ok), got(38, 7, true))
}

func TestContentsLine(t *testing.T) {
	for long := 1; long <= 40; long++ {
		for wide := 1; wide <= impl.MaxContents; wide++ {
			for _, page := range []int{1, 9, 10, 99, 100, 999, 1000, 1999, impl.MaxPages} {
				wantLine(t, strings.Repeat("a", long), page, wide)
			}
		}
	}
	for page := 1; page <= impl.MaxPages; page++ {
		wantLine(t, "Nuts", page, 12)
	}
	for sign := ' '; sign <= '~'; sign++ {
		s := string(sign)
		for _, title := range []string{s, s + "uts", "N" + s + "ts", "Nut" + s} {
			wantLine(t, title, 12, 12)
		}
	}
}

func TestContentsLineByHand(t *testing.T) {
	for _, c := range []struct {
		title string
		page  int
		wide  int
		line  string
	}{
		// Just one dot.
		{"Nuts", 12, 9, "Nuts . 12"}, {"Nuts", 9, 8, "Nuts . 9"}, {"Nuts", 100, 10, "Nuts . 100"}, {"a", 1, 5, "a . 1"}, {strings.Repeat("a", 40), 2000, 47, strings.Repeat("a", 40) + " . 2000"},
		{"Nuts", 12, 10, "Nuts .. 12"}, {"a", 1, 60, "a " + strings.Repeat(".", 56) + " 1"}, {strings.Repeat("a", 40), 2000, 60, strings.Repeat("a", 40) + " .............. 2000"},
		{" ", 1, 6, "  .. 1"}, {"a b ", 1, 8, "a b  . 1"}, {"~", 1, 5, "~ . 1"}, {"...", 1, 7, "... . 1"},
	} {
		line, ok := impl.ContentsLine(c.title, c.page, c.wide)
		expect(t, call("ContentsLine", c.title, c.page, c.wide), got(line, ok), got(c.line, true))
	}
	// There is room for no dot.
	for _, c := range []struct {
		title string
		page  int
		wide  int
	}{{"Nuts", 12, 8}, {"Nuts", 12, 7}, {"Nuts", 12, 1}, {"Nuts", 9, 7}, {"Nuts", 100, 9}, {"Nuts", 1000, 10}, {"a", 1, 4}, {"a", 1, 1}, {strings.Repeat("a", 40), 1, 43}, {strings.Repeat("a", 40), 2000, 46}} {
		wantZero(t, "ContentsLine", impl.ContentsLine, c.title, c.page, c.wide)
	}
}

func titlesFor(chapters []int) []string {
	var titles []string
	for k := range chapters {
		titles = append(titles, "Chapter "+strconv.Itoa(k))
	}
	return titles
}

func TestContentsOf(t *testing.T) {
	for _, chapters := range append(allChapters(3, 3), longChapters()...) {
		titles := titlesFor(chapters)
		for _, right := range bothSides {
			for wide := 10; wide <= 20; wide++ {
				want, allFit := []string{}, true
				for k, first := range plainBeginnings(plainBook(chapters, right)) {
					line, fits := plainLine(titles[k], first, wide)
					want, allFit = append(want, line), allFit && fits
				}
				if !allFit {
					want = nil
				}
				lines, ok := impl.ContentsOf(titles, chapters, right, wide)
				expect(t, call("ContentsOf", titles, chapters, right, wide), got(lines, ok), got(want, allFit))
			}
		}
	}
}

func TestContentsOfByHand(t *testing.T) {
	titles := []string{"Nuts", "Oats", "Peas", "Rye"}
	chapters := []int{3, 4, 5, 2}
	lines, ok := impl.ContentsOf(titles, chapters, true, 12)
	expect(t, "ContentsOf on right pages", got(lines, ok), got([]string{"Nuts ..... 1", "Oats ..... 5", "Peas ..... 9", "Rye ..... 15"}, true))
	lines, ok = impl.ContentsOf(titles, chapters, false, 12)
	expect(t, "ContentsOf on any pages", got(lines, ok), got([]string{"Nuts ..... 1", "Oats ..... 4", "Peas ..... 8", "Rye ..... 13"}, true))
	lines, ok = impl.ContentsOf(titles, chapters, true, 8)
	expect(t, "ContentsOf with just one dot", got(lines, ok), got([]string{"Nuts . 1", "Oats . 5", "Peas . 9", "Rye . 15"}, true))
	lines, ok = impl.ContentsOf([]string{"Nuts"}, []int{7}, true, 8)
	expect(t, "ContentsOf a single chapter", got(lines, ok), got([]string{"Nuts . 1"}, true))
	// Of four lines one has no room, as its page has two digits, or as its title is longer.
	wantZero(t, "ContentsOf", impl.ContentsOf, []string{"Nuts", "Oats", "Peas", "Rice"}, chapters, true, 8)
	wantZero(t, "ContentsOf", impl.ContentsOf, []string{"Onion", "Oats", "Peas", "Rye"}, chapters, true, 8)
	// The second chapter would begin on the page 10, which is blank.
	parted := []int{9, 1}
	lines, ok = impl.ContentsOf([]string{"Nuts", "Oats"}, parted, true, 9)
	expect(t, "ContentsOf with a blank page", got(lines, ok), got([]string{"Nuts .. 1", "Oats . 11"}, true))
	longest := strings.Repeat("~", 40)
	lines, ok = impl.ContentsOf(slices.Repeat([]string{longest}, 12), slices.Repeat([]int{120}, 12), false, impl.MaxContents)
	expect(t, "the longest ContentsOf", got(len(lines), lines[11], ok), got(12, longest+" .............. 1321", true))
}

// plainRoman takes the letters of hundreds, tens and ones out of lists.
func plainRoman(n int) string {
	ones := strings.Split(",i,ii,iii,iv,v,vi,vii,viii,ix", ",")
	tens := strings.Split(",x,xx,xxx,xl,l,lx,lxx,lxxx,xc", ",")
	hundreds := strings.Split(",c,cc,ccc", ",")
	return hundreds[n/100] + tens[n/10%10] + ones[n%10]
}

func TestRomans(t *testing.T) {
	longest := 1
	for n := 1; n <= 399; n++ {
		want := plainRoman(n)
		roman, ok := impl.RomanOf(n)
		expect(t, call("RomanOf", n), got(roman, ok), got(want, true))
		number, ok := impl.NumberOfRoman(want)
		expect(t, call("NumberOfRoman", want), got(number, ok), got(n, true))
		if len(want) > len(plainRoman(longest)) {
			longest = n
		}
		number, letters, ok := impl.LongestRoman(n)
		expect(t, call("LongestRoman", n), got(number, letters, ok), got(longest, len(plainRoman(longest)), true))
	}
}

func TestRomansByHand(t *testing.T) {
	for n, want := range map[int]string{
		1: "i", 3: "iii", 4: "iv", 5: "v", 6: "vi", 8: "viii", 9: "ix", 10: "x", 14: "xiv", 19: "xix", 39: "xxxix", 40: "xl", 44: "xliv", 49: "xlix", 50: "l", 60: "lx", 89: "lxxxix", 90: "xc", 94: "xciv", 99: "xcix", 100: "c",
		101: "ci", 104: "civ", 109: "cix", 140: "cxl", 149: "cxlix", 190: "cxc", 199: "cxcix", 200: "cc", 300: "ccc", 388: "ccclxxxviii", 394: "cccxciv", 399: "cccxcix",
	} {
		roman, ok := impl.RomanOf(n)
		expect(t, call("RomanOf", n), got(roman, ok), got(want, true))
		number, ok := impl.NumberOfRoman(want)
		expect(t, call("NumberOfRoman", want), got(number, ok), got(n, true))
	}
	for _, c := range []struct{ n, longest, letters int }{{1, 1, 1}, {2, 2, 2}, {3, 3, 3}, {7, 3, 3}, {8, 8, 4}, {37, 28, 6}, {38, 38, 7}, {50, 38, 7}, {87, 38, 7}, {88, 88, 8}, {387, 288, 10}, {388, 388, 11}, {399, 388, 11}} {
		number, letters, ok := impl.LongestRoman(c.n)
		expect(t, call("LongestRoman", c.n), got(number, letters, ok), got(c.longest, c.letters, true))
	}
}

// TestLettersThatTellNone looks at all texts of up to 6 Roman letters.
func TestLettersThatTellNone(t *testing.T) {
	numbers := map[string]int{}
	for n := 1; n <= 399; n++ {
		numbers[plainRoman(n)] = n
	}
	texts := []string{""}
	for range 7 {
		var longer []string
		for _, text := range texts {
			want, tells := numbers[text]
			if n, ok := impl.NumberOfRoman(text); n != want || ok != tells {
				t.Errorf("NumberOfRoman(%q) is %d, %v, not %d", text, n, ok, want)
			}
			for _, letter := range "ivxlc" {
				longer = append(longer, text+string(letter))
			}
		}
		texts = longer
	}
}
