package tests

import (
	"regexp"
	"slices"
	"strconv"
	"strings"
	"testing"

	"loop.example/g01394/impl"
)

var plainClueText = regexp.MustCompile(`^(0|[1-9][0-9]?)\.(0|[1-9][0-9]?)\.(0|[1-9][0-9]{0,3})$`)

func plainIsClue(c impl.Clue) bool {
	return slices.ContainsFunc(allKinds(), func(kind limitsOfKind) bool {
		return c.Kind == kind.kind && c.A >= kind.leastA && c.A <= kind.mostA && c.B >= 0 && c.B <= kind.mostB
	})
}

func plainParsePuzzle(text string) ([]impl.Clue, bool) {
	clues := []impl.Clue{}
	if text == "" {
		return clues, true
	}
	for _, part := range strings.Split(text, ",") {
		parts := plainClueText.FindStringSubmatch(part)
		if parts == nil {
			return nil, false
		}
		kind, _ := strconv.Atoi(parts[1])
		a, _ := strconv.Atoi(parts[2])
		b, _ := strconv.Atoi(parts[3])
		clues = append(clues, impl.Clue{Kind: kind, A: a, B: b})
	}
	return clues, len(clues) <= 6 && !slices.ContainsFunc(clues, func(c impl.Clue) bool { return !plainIsClue(c) })
}

func TestPuzzleTexts(t *testing.T) {
	for _, p := range somePuzzles() {
		text, ok := impl.PuzzleText(p)
		expect(t, call("PuzzleText", p), got(text, ok), got(plainPuzzleText(p), true))
		parsed, ok := impl.ParsePuzzle(text)
		expect(t, call("ParsePuzzle", text), got(notNil(parsed.Clues), ok), got(notNil(p.Clues), true))
	}
}

func TestTextsOfAllClues(t *testing.T) {
	for kind := 0; kind <= 7; kind++ {
		for a := 0; a <= 42; a++ {
			for _, b := range []int{0, 1, 2, 9, 10, 44, 99, 100, 999, 1000, 1001} {
				c := impl.Clue{Kind: kind, A: a, B: b}
				p := impl.Puzzle{Clues: []impl.Clue{c}}
				text := plainPuzzleText(p)
				if !plainIsClue(c) {
					wantZero(t, "PuzzleText", impl.PuzzleText, p)
					wantZero(t, "ParsePuzzle", impl.ParsePuzzle, text)
					continue
				}
				is, ok := impl.PuzzleText(p)
				expect(t, call("PuzzleText", p), got(is, ok), got(text, true))
				parsed, ok := impl.ParsePuzzle(text)
				expect(t, call("ParsePuzzle", text), got(parsed, ok), got(p, true))
			}
		}
	}
}

func TestPuzzleTextsByHand(t *testing.T) {
	for text, clues := range map[string][]impl.Clue{
		"":                   nil,
		"0.0.44":             {{Kind: 0, A: 0, B: 44}},
		"5.0.11,4.9.1":       {{Kind: 5, A: 0, B: 11}, {Kind: 4, A: 9, B: 1}},
		"3.40.0,3.1.1,2.0.0": {{Kind: 3, A: 40, B: 0}, {Kind: 3, A: 1, B: 1}, {Kind: 2}},
		"2.9.1000":           {{Kind: 2, A: 9, B: 1000}},
		// The longest one of all.
		"2.0.1000,2.1.1000,2.2.1000,0.0.1000,1.0.1000,5.0.1000": {{Kind: 2, A: 0, B: 1000}, {Kind: 2, A: 1, B: 1000}, {Kind: 2, A: 2, B: 1000}, {Kind: 0, B: 1000}, {Kind: 1, B: 1000}, {Kind: 5, B: 1000}},
	} {
		p := impl.Puzzle{Clues: clues}
		is, ok := impl.PuzzleText(p)
		expect(t, call("PuzzleText", p), got(is, ok), got(text, true))
		parsed, ok := impl.ParsePuzzle(text)
		expect(t, call("ParsePuzzle", text), got(notNil(parsed.Clues), ok), got(notNil(clues), true))
	}
}

// TestParseAllPuzzleTexts looks at all short texts of these signs: those of one clue are there.
func TestParseAllPuzzleTexts(t *testing.T) {
	for _, text := range allTexts(7, "0", "1", "4", ".", ",") {
		want, is := plainParsePuzzle(text)
		if p, ok := impl.ParsePuzzle(text); ok != is || ok && !slices.Equal(p.Clues, want) {
			t.Errorf("ParsePuzzle(%q) is %v, %v", text, p, ok)
		}
	}
}

// TestParsePuzzlesWithOneChange changes, takes out and puts in one sign of texts, at all places.
func TestParsePuzzlesWithOneChange(t *testing.T) {
	for _, text := range []string{"0.0.44", "5.0.11,4.9.1", "2.9.1000,3.40.1", "1.0.9,3.4.0,2.0.3", "2.0.1000,2.1.1000,2.2.1000,0.0.1000,1.0.1000,5.0.1000"} {
		var texts []string
		for place := range len(text) + 1 {
			for _, sign := range []string{"", "0", "1", "2", "3", "4", "5", "6", "9", ".", ",", "-", "+", " ", "\n", "\x00", "x", "\xff", "٣"} {
				texts = append(texts, text[:place]+sign+text[place:])
				if place < len(text) {
					texts = append(texts, text[:place]+sign+text[place+1:])
				}
			}
		}
		for _, text := range texts {
			want, is := plainParsePuzzle(text)
			p, ok := impl.ParsePuzzle(text)
			if ok != is || ok && !slices.Equal(p.Clues, want) {
				t.Errorf("ParsePuzzle(%q) is %v, %v", text, p, ok)
			}
			zeroUnlessOK(t, call("ParsePuzzle", text), p, ok)
		}
	}
}

func TestTextsOfNoPuzzles(t *testing.T) {
	texts := []string{
		",", ".", "..", " ", "\n", "0", "0.0", "0.0.", ".0.0", "0..0", "0.0.0.0", "0.0.0.", ".0.0.0", "0.0.44,", ",0.0.44", "0.0.44,,5.0.11", "0.0.44,5.0", "0.0.44,5", "0.0.44,5.0.11.1", "0.0.44.5.0.11", "0,0,44",
		"00.0.44", "0.00.44", "0.0.044", "0.0.00", "3.01.1", "3.1.01", "03.1.1", "+0.0.44", "0.+0.44", "0.0.+44", "-0.0.44", "0.-0.44", "0.0.-44", "0.0.-1", "0.-1.0", "-1.0.0", "0.0.44 ", " 0.0.44", "0.0. 44", "0.0.44, 5.0.11", "0.0.44\n", "0.0.44\x00", "0:0:44", "0.0.44;5.0.11",
		"6.0.0", "7.0.1", "10.0.0", "0.1.44", "1.1.9", "5.1.11", "2.10.1", "3.0.1", "3.41.1", "3.1.2", "4.1.1", "4.0.0", "4.10.1", "4.9.2", "0.0.1001", "1.0.1001", "2.0.1001", "5.0.1001", "0.0.10000", "x.0.44", "0.x.44", "0.0.x", "0.0.4x", "0x0.0.44", "0.0.1e2", "0.0.4_4", "０.0.44", "0.0.٤",
		"0.0.44,0.0.44,0.0.44,0.0.44,0.0.44,0.0.44,0.0.44", "0.0.44,0.0.44,0.0.44,0.0.44,0.0.44,0.0.44,", "2.0.1000,2.1.1000,2.2.1000,0.0.1000,1.0.1000,5.0.10000", "2.0.1000,2.1.1000,2.2.1000,0.0.1000,1.0.1000,5.0.1000,",
		"0.0.18446744073709551660", "18446744073709551616.0.44", "0.0.9223372036854775808", "0.0.-9223372036854775808", "\xff", "0.0.44\xff", "0.0.\xb2",
		strings.Repeat("0.0.44,", 100000), strings.Repeat("0.0.44,", 100000) + "0.0.44", strings.Repeat(".", 100000), strings.Repeat(",", 100000), strings.Repeat("0", 100000) + ".0.44", "0.0." + strings.Repeat("0", 100000) + "44", "0.0.44" + strings.Repeat(" ", 100000),
	}
	for _, text := range texts {
		wantZero(t, "ParsePuzzle", impl.ParsePuzzle, text)
	}
}
