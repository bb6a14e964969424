package tests

import (
	"slices"
	"strconv"
	"strings"
	"testing"

	"loop.example/g01394/impl"
)

// plainShort leaves out digits by looking for the least power of ten by which both numbers differ in front.
func plainShort(r impl.Range) string {
	from, to := strconv.Itoa(r.From), strconv.Itoa(r.To)
	switch {
	case r.From == r.To:
		return from
	case len(from) != len(to):
		return from + "-" + to
	}
	tens := 10
	for r.From/tens != r.To/tens {
		tens *= 10
	}
	return from + "-" + strconv.Itoa(r.To%tens)
}

func TestShortRanges(t *testing.T) {
	for from := 1; from <= impl.MaxIndexed; from++ {
		for to := from; to <= impl.MaxIndexed; to++ {
			r := impl.Range{From: from, To: to}
			want := plainShort(r)
			if text, ok := impl.ShortRange(r); text != want || !ok {
				t.Errorf("ShortRange of %v is %q, %v, not %q", r, text, ok, want)
			}
			if parsed, ok := impl.LongRange(want); parsed != r || !ok {
				t.Errorf("LongRange of %q is %v, %v, not %v", want, parsed, ok, r)
			}
		}
	}
}

func TestShortRangesByHand(t *testing.T) {
	for _, c := range []struct {
		from, to int
		text     string
	}{
		{120, 134, "120-34"}, {123, 125, "123-5"}, {98, 102, "98-102"}, {7, 7, "7"}, {2000, 2000, "2000"}, {3, 7, "3-7"}, {9, 10, "9-10"}, {10, 12, "10-2"}, {10, 20, "10-20"}, {11, 21, "11-21"}, {121, 131, "121-31"}, {100, 109, "100-9"}, {100, 110, "100-10"}, {195, 205, "195-205"}, {1, 2000, "1-2000"}, {999, 1000, "999-1000"}, {1000, 1001, "1000-1"}, {1000, 1999, "1000-999"}, {1099, 1101, "1099-101"}, {1111, 1121, "1111-21"}, {1999, 2000, "1999-2000"}, {1, 1000, "1-1000"}, {100, 1000, "100-1000"}, {1, 10, "1-10"}, {1, 11, "1-11"}, {12, 123, "12-123"},
	} {
		r := impl.Range{From: c.from, To: c.to}
		text, ok := impl.ShortRange(r)
		expect(t, call("ShortRange", r), got(text, ok), got(c.text, true))
		parsed, ok := impl.LongRange(c.text)
		expect(t, call("LongRange", c.text), got(parsed, ok), got(r, true))
	}
}

// TestLongRangesOfAllTexts looks at all texts of up to 7 signs, of which some are no digits of these pages.
func TestLongRangesOfAllTexts(t *testing.T) {
	want := map[string]impl.Range{}
	for from := 1; from <= impl.MaxIndexed; from++ {
		for to := from; to <= impl.MaxIndexed; to++ {
			r := impl.Range{From: from, To: to}
			if text := plainShort(r); len(text) <= 7 && strings.Trim(text, "012-") == "" {
				want[text] = r
			}
		}
	}
	texts := []string{""}
	for range 7 {
		var longer []string
		for _, text := range texts {
			for _, sign := range []string{"0", "1", "2", "-"} {
				longer = append(longer, text+sign)
			}
		}
		for _, text := range longer {
			r, can := want[text]
			if parsed, ok := impl.LongRange(text); parsed != r || ok != can {
				t.Errorf("LongRange of %q is %v, %v, not %v, %v", text, parsed, ok, r, can)
			}
		}
		texts = longer
	}
}

func wantTexts(t *testing.T, list []impl.Range) {
	t.Helper()
	var parts []string
	for _, r := range list {
		parts = append(parts, plainShort(r))
	}
	want := strings.Join(parts, ",")
	text, ok := impl.RangesText(list)
	expect(t, call("RangesText", list), got(text, ok), got(want, true))
	parsed, ok := impl.ParseRanges(want)
	expect(t, call("ParseRanges", want), got(notNil(parsed), ok), got(notNil(list), true))
}

func TestRangesTexts(t *testing.T) {
	for _, list := range someRanges() {
		wantTexts(t, list)
	}
	// No text is longer: all numbers have four digits but one, and as many ranges as can be go on behind a hundred.
	longest := append(spread(9, 1095, 100, 10), spread(9, 1010, 100, 11)...)
	slices.SortFunc(longest, func(a, b impl.Range) int { return a.From - b.From })
	longest = slices.Concat(spans(999, 1000), longest, spans(1995, 2000))
	expect(t, "the ranges of the longest text", len(longest), impl.MaxRanges)
	wantTexts(t, longest)
}

func TestRangesTextsByHand(t *testing.T) {
	for _, c := range []struct {
		list []impl.Range
		text string
	}{
		{spans(), ""}, {nil, ""}, {spans(3, 7), "3-7"}, {spans(5, 5, 7, 9), "5,7-9"}, {spans(3, 4, 8, 8, 10, 12), "3-4,8,10-2"}, {spans(1, 1, 3, 3, 5, 5), "1,3,5"}, {spans(98, 102, 120, 134, 2000, 2000), "98-102,120-34,2000"},
	} {
		text, ok := impl.RangesText(c.list)
		expect(t, call("RangesText", c.list), got(text, ok), got(c.text, true))
		parsed, ok := impl.ParseRanges(c.text)
		expect(t, call("ParseRanges", c.text), got(notNil(parsed), ok), got(notNil(c.list), true))
	}
}
