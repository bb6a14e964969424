package tests

import (
	"math"
	"slices"
	"strings"
	"testing"

	"loop.example/g01394/impl"
)

// noChapters has lists with one number out of its bounds, at each end and between, or with too many or too few.
func noChapters() [][]int {
	none := [][]int{nil, {}, slices.Repeat([]int{1}, 13), slices.Repeat([]int{120}, 13), slices.Repeat([]int{2}, 1000), make([]int, 12), {math.MaxInt, math.MaxInt}, {math.MinInt, math.MinInt}}
	for _, n := range append(outside(1, impl.MaxChapter), 0) {
		none = append(none, []int{n}, []int{n, 4, 5, 2}, []int{3, n, 5, 2}, []int{3, 4, 5, n}, append(slices.Repeat([]int{120}, 11), n), append([]int{n}, slices.Repeat([]int{1}, 11)...))
	}
	return none
}

func TestNoChapters(t *testing.T) {
	for _, none := range noChapters() {
		wantZero(t, "FewestBlanks", impl.FewestBlanks, none)
		wantZero(t, "FirstFewestBlanks", impl.FirstFewestBlanks, none)
		wantZero(t, "CountFewestBlanks", impl.CountFewestBlanks, none)
		wantZero(t, "LongestChapter", impl.LongestChapter, none)
		wantZero(t, "ChaptersText", impl.ChaptersText, none)
		for _, right := range bothSides {
			wantZero(t, "BeginningsOf", impl.BeginningsOf, none, right)
			wantZero(t, "BlanksOf", impl.BlanksOf, none, right)
			wantZero(t, "PagesOfChapters", impl.PagesOfChapters, none, right)
			for _, page := range []int{0, 1, 2, 120, 1440} {
				wantZero(t, "ChapterOfPage", impl.ChapterOfPage, none, right, page)
			}
			wantZero(t, "ContentsOf", impl.ContentsOf, titlesFor(none), none, right, impl.MaxContents)
			wantZero(t, "ContentsOf", impl.ContentsOf, []string{"Nuts", "Oats"}, none, right, impl.MaxContents)
		}
		for _, n := range []int{0, 1, 2, 3, impl.MaxSplits, impl.MaxChapter, impl.MaxChapter * impl.MaxChapters} {
			wantZero(t, "MoveChapter", impl.MoveChapter, none, 0, n)
			wantZero(t, "MoveChapter", impl.MoveChapter, none, n, 0)
			wantZero(t, "LeastVolume", impl.LeastVolume, none, n)
			wantZero(t, "FirstVolumes", impl.FirstVolumes, none, n)
			wantZero(t, "FewestVolumes", impl.FewestVolumes, none, n)
		}
	}
}

func TestInvalidPagesOfChapters(t *testing.T) {
	for _, chapters := range longChapters() {
		for _, right := range bothSides {
			for _, page := range append(outside(1, len(plainBook(chapters, right))), 0) {
				wantZero(t, "ChapterOfPage", impl.ChapterOfPage, chapters, right, page)
			}
		}
	}
}

func TestInvalidPlacesOfChapters(t *testing.T) {
	for many := 1; many <= impl.MaxChapters; many++ {
		// The room behind the chapters has more of them.
		chapters := slices.Repeat([]int{30}, impl.MaxChapters+1)[:many]
		for _, place := range outside(0, many-1) {
			for other := range many {
				wantZero(t, "MoveChapter", impl.MoveChapter, chapters, place, other)
				wantZero(t, "MoveChapter", impl.MoveChapter, chapters, other, place)
			}
			wantZero(t, "MoveChapter", impl.MoveChapter, chapters, place, place)
		}
	}
}

func TestInvalidVolumesOfChapters(t *testing.T) {
	for many := 1; many <= impl.MaxChapters; many++ {
		chapters := slices.Repeat([]int{30}, impl.MaxChapters+1)[:many]
		// There are not more volumes than chapters.
		for _, volumes := range append(outside(1, min(many, impl.MaxSplits)), 0) {
			wantZero(t, "LeastVolume", impl.LeastVolume, chapters, volumes)
			wantZero(t, "FirstVolumes", impl.FirstVolumes, chapters, volumes)
		}
		for _, most := range append(outside(1, impl.MaxChapter*impl.MaxChapters), 0, 29) {
			wantZero(t, "FewestVolumes", impl.FewestVolumes, chapters, most)
		}
	}
}

func noTitles() []string {
	titles := []string{"", strings.Repeat("a", 41), strings.Repeat("a", 1000), strings.Repeat("\n", 100000), "é", "Nüts", "\xff", "\x80uts", "Nut\xc3"}
	for _, sign := range []string{"\x00", "\t", "\n", "\x1f", "\x7f", "\x80", "\xff"} {
		titles = append(titles, sign, sign+"uts", "N"+sign+"ts", "Nut"+sign)
	}
	return titles
}

func TestInvalidContents(t *testing.T) {
	for _, title := range noTitles() {
		for _, wide := range []int{1, 12, 50, impl.MaxContents} {
			wantZero(t, "ContentsLine", impl.ContentsLine, title, 12, wide)
			for place := range 4 {
				titles := []string{"Nuts", "Oats", "Peas", "Rye"}
				titles[place] = title
				wantZero(t, "ContentsOf", impl.ContentsOf, titles, []int{3, 4, 5, 2}, true, wide)
			}
		}
	}
	for _, page := range append(outside(1, impl.MaxPages), 0) {
		wantZero(t, "ContentsLine", impl.ContentsLine, "Nuts", page, 12)
		wantZero(t, "ContentsLine", impl.ContentsLine, "Nuts", page, impl.MaxContents)
	}
	for _, wide := range append(outside(1, impl.MaxContents), 0) {
		wantZero(t, "ContentsLine", impl.ContentsLine, "Nuts", 12, wide)
		wantZero(t, "ContentsOf", impl.ContentsOf, []string{"Nuts", "Oats"}, []int{3, 4}, true, wide)
	}
}

func TestTitlesForOtherChapters(t *testing.T) {
	for many := 1; many <= impl.MaxChapters; many++ {
		chapters := slices.Repeat([]int{30}, many)
		for titles := range impl.MaxChapters + 3 {
			if titles != many {
				// The room behind the titles has more of them.
				wantZero(t, "ContentsOf", impl.ContentsOf, slices.Repeat([]string{"Nuts"}, impl.MaxChapters+3)[:titles], chapters, true, impl.MaxContents)
			}
		}
		wantZero(t, "ContentsOf", impl.ContentsOf, []string(nil), chapters, false, impl.MaxContents)
		wantZero(t, "ContentsOf", impl.ContentsOf, slices.Repeat([]string{"Nuts"}, 1000), chapters, false, impl.MaxContents)
	}
}

func TestInvalidRomans(t *testing.T) {
	for _, n := range append(outside(1, 399), 0) {
		wantZero(t, "RomanOf", impl.RomanOf, n)
		wantZero(t, "LongestRoman", impl.LongestRoman, n)
	}
	for _, text := range []string{
		"", "iiii", "vv", "vx", "iix", "ic", "il", "xd", "d", "cd", "m", "cccc", "cdxcix", "ccclxxxviiii", "xcx", "ixi", "ivi", "xxl", "lxl", "lc", "XCIV", "Xciv", "xcIv", " xciv", "xciv ", "xc iv", "xciv\n", "x,c", "94", "0", "j", "xcij", "ⅳ", "\xff", "xciv\x00",
		strings.Repeat("i", 100000), strings.Repeat("ccclxxxviii", 10000),
	} {
		wantZero(t, "NumberOfRoman", impl.NumberOfRoman, text)
	}
}

func TestTextsOfNoChapters(t *testing.T) {
	texts := []string{
		"", "+", "++", "3+", "+3", "3++4", "3+4+", "+3+4", "03", "3+04", "03+4", "0", "00", "3+0", "0+3", "121", "3+121", "121+3", "1000", "-3", "3+-4", "-0", "3-4", "3,4", "3 4", "3 + 4", " 3", "3 ", "3+4 ", "3+ 4", "3+4\n", "\n3", "3\x00", "x", "3+x", "x+3", "3x", "3_0", "0x3", "3e1", "3.0",
		"1+1+1+1+1+1+1+1+1+1+1+1+1", "120+120+120+120+120+120+120+120+120+120+120+120+120", "120+120+120+120+120+120+120+120+120+120+120+120+", "9223372036854775808", "18446744073709551617", "3+18446744073709551617", "٣", "３", "\xff", "3\xff",
		strings.Repeat("0", 100000) + "3", "3" + strings.Repeat(" ", 100000), strings.Repeat("1+", 100000) + "1", strings.Repeat("+", 100000), strings.Repeat("9", 100000),
	}
	for _, text := range texts {
		wantZero(t, "ParseChapters", impl.ParseChapters, text)
	}
}

func TestAnyChapters(t *testing.T) {
	good := []int{3, 4, 5, 2}
	for _, a := range anyNumbers() {
		checkZero(t, "RomanOf", impl.RomanOf, a)
		checkZero(t, "LongestRoman", impl.LongestRoman, a)
		checkZero(t, "ChapterOfPage", impl.ChapterOfPage, good, true, a)
		checkZero(t, "LeastVolume", impl.LeastVolume, good, a)
		checkZero(t, "FirstVolumes", impl.FirstVolumes, good, a)
		checkZero(t, "FewestVolumes", impl.FewestVolumes, good, a)
		for _, b := range anyNumbers() {
			checkZero(t, "MoveChapter", impl.MoveChapter, good, a, b)
			checkZero(t, "ContentsLine", impl.ContentsLine, "Nuts", a, b)
			chapters := []int{a, b, 7}
			checkZero(t, "BeginningsOf", impl.BeginningsOf, chapters, true)
			checkZero(t, "BlanksOf", impl.BlanksOf, chapters, true)
			checkZero(t, "PagesOfChapters", impl.PagesOfChapters, chapters, false)
			checkZero(t, "ChapterOfPage", impl.ChapterOfPage, chapters, true, b)
			checkZero(t, "FewestBlanks", impl.FewestBlanks, chapters)
			checkZero(t, "FirstFewestBlanks", impl.FirstFewestBlanks, chapters)
			checkZero(t, "CountFewestBlanks", impl.CountFewestBlanks, chapters)
			checkZero(t, "LongestChapter", impl.LongestChapter, chapters)
			checkZero(t, "FewestVolumes", impl.FewestVolumes, chapters, a)
			checkZero(t, "FirstVolumes", impl.FirstVolumes, chapters, b)
			checkZero(t, "ContentsOf", impl.ContentsOf, titlesFor(chapters), chapters, true, a)
			checkZero(t, "ChaptersText", impl.ChaptersText, chapters)
		}
	}
}
