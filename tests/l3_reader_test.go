package tests

import (
	"strconv"
	"testing"

	"loop.example/g01394/impl"
)

// longestRead is more days than any reader needs for any book.
const longestRead = 4001

func reader(mark, daily, rest int) impl.Reader {
	return impl.Reader{Mark: mark, Daily: daily, Rest: rest}
}

// plainDays has the pages that are read on the days 1, 2, .., as if the book did not end; there is none at 0.
func plainDays(r impl.Reader, days int) []int {
	read := []int{0}
	since := 0
	for range days {
		since++
		if since == r.Rest {
			read = append(read, 0)
			since = 0
			continue
		}
		read = append(read, r.Daily)
	}
	return read
}

// plainMarks has the last page that is read behind 0, 1, 2, .. days, as if the book did not end.
func plainMarks(r impl.Reader, days int) []int {
	marks := []int{r.Mark}
	for _, read := range plainDays(r, days)[1:] {
		marks = append(marks, marks[len(marks)-1]+read)
	}
	return marks
}

// plainDayUpTo goes on from day to day until a page is read.
func plainDayUpTo(marks []int, page int) int {
	day := 0
	for marks[day] < page {
		day++
	}
	return day
}

// someReaders has readers with the least and the greatest numbers, and some between.
func someReaders() []impl.Reader {
	var readers []impl.Reader
	for _, mark := range []int{0, 1, 10, 99, 100, 1000, 1999, 2000} {
		for _, daily := range []int{1, 2, 7, 20, 199, 200} {
			for _, rest := range []int{0, 2, 3, 7, 59, 60} {
				readers = append(readers, reader(mark, daily, rest))
			}
		}
	}
	return readers
}

// someDays has the first days, some between, and the last ones.
func someDays() []int {
	days := []int{179, 180, 181, 500, 999, 1000, 1001, 1999, 2000, 2001, 2998, 2999, 3000}
	for day := 1; day <= 65; day++ {
		days = append(days, day)
	}
	return days
}

func TestReaderExample(t *testing.T) {
	r := reader(10, 20, 7)
	parsed, ok := impl.ParseReader("10+20/7")
	expect(t, "ParseReader", got(parsed, ok), got(r, true))
	text, ok := impl.ReaderText(r)
	expect(t, "ReaderText", got(text, ok), got("10+20/7", true))
	for _, days := range []int{6, 7} {
		mark, ok := impl.MarkAfter(200, r, days)
		expect(t, call("MarkAfter", 200, r, days), got(mark, ok), got(130, true))
	}
	days, ok := impl.DaysToEnd(200, r)
	expect(t, "DaysToEnd", got(days, ok), got(11, true))
	day, ok := impl.DayOfPage(r, 131)
	expect(t, "DayOfPage 131", got(day, ok), got(8, true))
	a, _ := impl.ParseReader("0+20")
	b, _ := impl.ParseReader("40+10")
	day, page, ok := impl.Meet(200, a, b)
	expect(t, "Meet", got(day, page, ok), got(4, 80, true))
}

func TestIsReader(t *testing.T) {
	for _, r := range someReaders() {
		expect(t, call("IsReader", r), impl.IsReader(r), true)
	}
	for mark := 0; mark <= impl.MaxPages; mark++ {
		expect(t, call("IsReader", mark), impl.IsReader(reader(mark, 1, 0)), true)
	}
	for daily := 1; daily <= impl.MaxDaily; daily++ {
		expect(t, call("IsReader", daily), impl.IsReader(reader(0, daily, 0)), true)
	}
	for rest := 2; rest <= 60; rest++ {
		expect(t, call("IsReader", rest), impl.IsReader(reader(0, 1, rest)), true)
	}
	for _, r := range noReaders() {
		expect(t, call("IsReader", r), impl.IsReader(r), false)
	}
}

func TestMarkAfter(t *testing.T) {
	for _, r := range someReaders() {
		marks := plainMarks(r, impl.MaxDays)
		for _, pages := range edgeBooks() {
			if r.Mark > pages {
				continue
			}
			for _, days := range append(someDays(), 0) {
				mark, ok := impl.MarkAfter(pages, r, days)
				if want := min(pages, marks[days]); mark != want || !ok {
					t.Errorf("MarkAfter(%d, %v, %d) is %d, %v, not %d", pages, r, days, mark, ok, want)
				}
			}
		}
	}
}

func TestAllDaysOfReaders(t *testing.T) {
	for _, r := range []impl.Reader{reader(0, 1, 0), reader(0, 1, 2), reader(7, 3, 2), reader(100, 20, 7), reader(1999, 200, 59), reader(2000, 200, 60)} {
		read, marks := plainDays(r, impl.MaxDays), plainMarks(r, impl.MaxDays)
		for day := 0; day <= impl.MaxDays; day++ {
			mark, ok := impl.MarkAfter(impl.MaxPages, r, day)
			expect(t, call("MarkAfter", r, day), got(mark, ok), got(min(impl.MaxPages, marks[day]), true))
			if day > 0 {
				n, ok := impl.ReadOn(r, day)
				expect(t, call("ReadOn", r, day), got(n, ok), got(read[day], true))
			}
		}
	}
}

func TestReadOnEveryOtherDay(t *testing.T) {
	for _, c := range []struct{ rest, day, read int }{{0, 1, 20}, {0, 2, 20}, {0, 3000, 20}, {2, 1, 20}, {2, 2, 0}, {2, 3, 20}, {2, 2999, 20}, {2, 3000, 0}, {60, 59, 20}, {60, 60, 0}, {60, 61, 20}, {60, 3000, 0}} {
		// The book does not end here, so that even a reader at its end reads on.
		for _, mark := range []int{0, 10, impl.MaxPages} {
			r := reader(mark, 20, c.rest)
			n, ok := impl.ReadOn(r, c.day)
			expect(t, call("ReadOn", r, c.day), got(n, ok), got(c.read, true))
		}
	}
}

func TestDaysToEnd(t *testing.T) {
	for _, r := range someReaders() {
		marks := plainMarks(r, longestRead)
		for _, pages := range edgeBooks() {
			if r.Mark > pages {
				continue
			}
			days, ok := impl.DaysToEnd(pages, r)
			expect(t, call("DaysToEnd", pages, r), got(days, ok), got(plainDayUpTo(marks, pages), true))
		}
	}
}

func TestReadersAtTheEndAtFirst(t *testing.T) {
	for _, pages := range edgeBooks() {
		for _, rest := range []int{0, 2, 60} {
			r := reader(pages, 20, rest)
			days, ok := impl.DaysToEnd(pages, r)
			expect(t, call("DaysToEnd", pages, r), got(days, ok), got(0, true))
			for _, behind := range []int{0, 1, 2, impl.MaxDays} {
				mark, ok := impl.MarkAfter(pages, r, behind)
				expect(t, call("MarkAfter", pages, r, behind), got(mark, ok), got(pages, true))
			}
			k, days, ok := impl.FirstAtEnd(pages, []impl.Reader{reader(pages-1, 200, 0), r, r})
			expect(t, call("FirstAtEnd", pages, r), got(k, days, ok), got(1, 0, true))
			day, page, ok := impl.Meet(pages, r, r)
			expect(t, call("Meet", pages, r, r), got(day, page, ok), got(0, 0, false))
		}
	}
}

func TestReadersWhoNeedMoreThanMaxDays(t *testing.T) {
	// MaxDays bounds the days that are asked, not the number of them that is returned.
	for _, c := range []struct {
		pages int
		r     impl.Reader
		days  int
	}{{1500, reader(0, 1, 2), 2999}, {1501, reader(0, 1, 2), 3001}, {2000, reader(0, 1, 2), 3999}, {2000, reader(0, 1, 3), 2999}, {2000, reader(1, 1, 2), 3997}} {
		days, ok := impl.DaysToEnd(c.pages, c.r)
		expect(t, call("DaysToEnd", c.pages, c.r), got(days, ok), got(c.days, true))
		days, ok = impl.DayOfPage(c.r, c.pages)
		expect(t, call("DayOfPage", c.r, c.pages), got(days, ok), got(c.days, true))
		k, days, ok := impl.FirstAtEnd(c.pages, []impl.Reader{c.r})
		expect(t, call("FirstAtEnd", c.pages, c.r), got(k, days, ok), got(0, c.days, true))
	}
}

// TestReadersAreOnPagesOfDays holds promise 3 against the calls themselves.
func TestReadersAreOnPagesOfDays(t *testing.T) {
	for _, r := range someReaders() {
		marks := plainMarks(r, longestRead)
		for page := r.Mark + 1; page <= impl.MaxPages; page += 1 + page%13 {
			day, ok := impl.DayOfPage(r, page)
			expect(t, call("DayOfPage", r, page), got(day, ok), got(plainDayUpTo(marks, page), true))
			if day < 1 || day > impl.MaxDays {
				continue
			}
			read, _ := impl.ReadOn(r, day)
			before, _ := impl.MarkAfter(impl.MaxPages, r, day-1)
			behind, _ := impl.MarkAfter(impl.MaxPages, r, day)
			if read == 0 || page <= before || page > behind {
				t.Errorf("%v reads the page %d on the day %d, with %d pages behind %d", r, page, day, read, before)
			}
		}
	}
}

func TestDayOfAllPages(t *testing.T) {
	for _, r := range []impl.Reader{reader(0, 1, 0), reader(0, 1, 2), reader(10, 20, 7), reader(5, 200, 2), reader(1999, 1, 60)} {
		marks := plainMarks(r, longestRead)
		for page := 1; page <= impl.MaxPages; page++ {
			day, ok := impl.DayOfPage(r, page)
			want := got(plainDayUpTo(marks, page), true)
			if page <= r.Mark {
				want = got(0, false)
			}
			expect(t, call("DayOfPage", r, page), got(day, ok), want)
		}
	}
}

// plainMeet goes through the days until both are at the end.
func plainMeet(pages int, marksA, marksB []int) (int, int, bool) {
	for day := range marksA {
		a, b := min(pages, marksA[day]), min(pages, marksB[day])
		if a == b && a < pages {
			return day, a, true
		}
	}
	return 0, 0, false
}

func TestMeet(t *testing.T) {
	var readers []impl.Reader
	for _, mark := range []int{0, 1, 40, 99, 100, 1999} {
		for _, daily := range []int{1, 2, 3, 20, 200} {
			for _, rest := range []int{0, 2, 3, 60} {
				readers = append(readers, reader(mark, daily, rest))
			}
		}
	}
	var marks [][]int
	for _, r := range readers {
		marks = append(marks, plainMarks(r, longestRead))
	}
	for _, pages := range []int{1, 2, 40, 100, 101, 2000} {
		for i, a := range readers {
			for j, b := range readers {
				if a.Mark > pages || b.Mark > pages || (pages == 2000 && (i+j)%7 > 0) {
					continue
				}
				day, page, ok := impl.Meet(pages, a, b)
				wantDay, wantPage, met := plainMeet(pages, marks[i], marks[j])
				if day != wantDay || page != wantPage || ok != met {
					t.Errorf("Meet(%d, %v, %v) is %d, %d, %v, not %d, %d, %v", pages, a, b, day, page, ok, wantDay, wantPage, met)
				}
			}
		}
	}
}

func TestMeetByHand(t *testing.T) {
	for _, c := range []struct {
		pages int
		a, b  impl.Reader
		want  string
	}{
		{100, reader(5, 1, 0), reader(5, 9, 0), got(0, 5, true)},
		{100, reader(0, 1, 0), reader(0, 1, 0), got(0, 0, true)},
		// Both are at 80 behind the day 4, but that is the end, or beyond it.
		{80, reader(0, 20, 0), reader(40, 10, 0), got(0, 0, false)},
		{81, reader(0, 20, 0), reader(40, 10, 0), got(4, 80, true)},
		{79, reader(0, 20, 0), reader(40, 10, 0), got(0, 0, false)},
		// One is caught on a day of rest; the other one goes past without stopping at the same page.
		{100, reader(10, 10, 2), reader(0, 10, 0), got(2, 20, true)},
		{100, reader(1, 1, 0), reader(0, 3, 0), got(0, 0, false)},
		// The same pace with the same distance never meets.
		{2000, reader(1, 1, 2), reader(0, 1, 2), got(0, 0, false)},
	} {
		day, page, ok := impl.Meet(c.pages, c.a, c.b)
		expect(t, call("Meet", c.pages, c.a, c.b), got(day, page, ok), c.want)
		day, page, ok = impl.Meet(c.pages, c.b, c.a)
		expect(t, call("Meet", c.pages, c.b, c.a), got(day, page, ok), c.want)
	}
}

func TestAheadOn(t *testing.T) {
	readers := someReaders()
	for i := 0; i < len(readers); i += 5 {
		a, marksA := readers[i], plainMarks(readers[i], impl.MaxDays)
		for j := 0; j < len(readers); j += 7 {
			b, marksB := readers[j], plainMarks(readers[j], impl.MaxDays)
			for _, day := range []int{0, 1, 2, 3, 6, 7, 59, 60, 61, 2999, impl.MaxDays} {
				n, ok := impl.AheadOn(a, b, day)
				expect(t, call("AheadOn", a, b, day), got(n, ok), got(marksA[day]-marksB[day], true))
			}
		}
	}
}

func TestAheadOnByHand(t *testing.T) {
	fast, slow := reader(0, 200, 0), reader(2000, 1, 2)
	for _, c := range []struct{ day, ahead int }{{0, -2000}, {1, -1801}, {2, -1601}, {10, -5}, {11, 194}, {3000, 600000 - 3500}} {
		n, ok := impl.AheadOn(fast, slow, c.day)
		expect(t, call("AheadOn", c.day), got(n, ok), got(c.ahead, true))
		n, ok = impl.AheadOn(slow, fast, c.day)
		expect(t, call("AheadOn", c.day), got(n, ok), got(-c.ahead, true))
		n, ok = impl.AheadOn(slow, slow, c.day)
		expect(t, call("AheadOn", c.day), got(n, ok), got(0, true))
	}
}

// listsOfReaders has lists of one reader up to MaxReaders, with marks up to pages, and some twice.
func listsOfReaders(pages int) [][]impl.Reader {
	var fitting []impl.Reader
	for _, r := range someReaders() {
		if r.Mark <= pages {
			fitting = append(fitting, r)
		}
	}
	var lists [][]impl.Reader
	for k := range fitting {
		var list []impl.Reader
		for many := range impl.MaxReaders {
			// The steps are such that marks and paces change, and that the last one is the first one again.
			list = append(list, fitting[(k+many%5*41)%len(fitting)])
			lists = append(lists, append([]impl.Reader{}, list...))
		}
	}
	return lists
}

func TestFirstAtEnd(t *testing.T) {
	for _, pages := range []int{1, 10, 100, 1000, 2000} {
		days := map[impl.Reader]int{}
		for _, list := range listsOfReaders(pages) {
			first, fewest := -1, longestRead
			for k, r := range list {
				if _, known := days[r]; !known {
					days[r] = plainDayUpTo(plainMarks(r, longestRead), pages)
				}
				if days[r] < fewest {
					first, fewest = k, days[r]
				}
			}
			k, n, ok := impl.FirstAtEnd(pages, list)
			expect(t, call("FirstAtEnd", pages, list), got(k, n, ok), got(first, fewest, true))
		}
	}
}

func TestFirstAtEndOfSeveral(t *testing.T) {
	// All but the first one need five days, with or without a rest, and whatever is left on the last of them.
	readers := []impl.Reader{reader(0, 1, 0), reader(1, 20, 0), reader(0, 25, 3), reader(0, 20, 0), reader(99, 1, 0)}
	k, days, ok := impl.FirstAtEnd(100, readers[:4])
	expect(t, "FirstAtEnd of several", got(k, days, ok), got(1, 5, true))
	k, days, ok = impl.FirstAtEnd(100, readers)
	expect(t, "FirstAtEnd of the last", got(k, days, ok), got(4, 1, true))
	k, days, ok = impl.FirstAtEnd(100, readers[:1])
	expect(t, "FirstAtEnd of one", got(k, days, ok), got(0, 100, true))
}

// plainOrder takes out the reader who has read the most, the first one of several, time and again.
func plainOrder(marks []int) []int {
	order, taken := []int{}, map[int]bool{}
	for range marks {
		best := -1
		for k, mark := range marks {
			if !taken[k] && (best < 0 || mark > marks[best]) {
				best = k
			}
		}
		order = append(order, best)
		taken[best] = true
	}
	return order
}

func TestOrderOnDay(t *testing.T) {
	all := map[impl.Reader][]int{}
	for _, r := range someReaders() {
		all[r] = plainMarks(r, impl.MaxDays)
	}
	for _, pages := range []int{1, 10, 100, 1000, 2000} {
		for _, list := range listsOfReaders(pages) {
			for _, day := range []int{0, 1, 2, 3, 7, 50, 60, 200, impl.MaxDays} {
				var marks []int
				for _, r := range list {
					marks = append(marks, min(pages, all[r][day]))
				}
				order, ok := impl.OrderOnDay(pages, list, day)
				expect(t, call("OrderOnDay", pages, list, day), got(order, ok), got(plainOrder(marks), true))
			}
		}
	}
}

func TestOrderOnDayByHand(t *testing.T) {
	readers := []impl.Reader{reader(0, 10, 0), reader(30, 5, 2), reader(50, 1, 0), reader(0, 10, 0), reader(90, 1, 2), reader(0, 200, 60)}
	for _, c := range []struct {
		pages, day int
		want       []int
	}{
		{100, 0, []int{4, 2, 1, 0, 3, 5}},
		{100, 1, []int{5, 4, 2, 1, 0, 3}},
		// Behind four days 1 is at 40, as are 0 and 3.
		{100, 4, []int{5, 4, 2, 0, 1, 3}},
		// At the end nobody has read more than the others who are there.
		{100, 10, []int{0, 3, 5, 4, 2, 1}},
		{2000, 10, []int{5, 0, 3, 4, 2, 1}},
		{100, 3000, []int{0, 1, 2, 3, 4, 5}},
	} {
		order, ok := impl.OrderOnDay(c.pages, readers, c.day)
		expect(t, call("OrderOnDay", c.pages, c.day), got(order, ok), got(c.want, true))
	}
	order, ok := impl.OrderOnDay(100, readers[4:5], 7)
	expect(t, "OrderOnDay of one", got(order, ok), got([]int{0}, true))
}

func TestTogetherPages(t *testing.T) {
	for _, list := range listsOfReaders(impl.MaxPages) {
		for _, day := range []int{1, 2, 3, 6, 7, 59, 60, 420, 2999, impl.MaxDays} {
			sum := 0
			for _, r := range list {
				if r.Rest == 0 || day%r.Rest != 0 {
					sum += r.Daily
				}
			}
			n, ok := impl.TogetherPages(list, day)
			expect(t, call("TogetherPages", list, day), got(n, ok), got(sum, true))
		}
	}
	most := []impl.Reader{reader(0, 200, 2), reader(0, 200, 3), reader(2000, 200, 0), reader(0, 200, 0), reader(0, 200, 0), reader(0, 200, 60)}
	for _, c := range []struct{ day, sum int }{{1, 1200}, {2, 1000}, {3, 1000}, {6, 800}, {60, 600}} {
		n, ok := impl.TogetherPages(most, c.day)
		expect(t, call("TogetherPages", c.day), got(n, ok), got(c.sum, true))
	}
}

func TestReaderTexts(t *testing.T) {
	for _, r := range someReaders() {
		want := strconv.Itoa(r.Mark) + "+" + strconv.Itoa(r.Daily)
		if r.Rest != 0 {
			want += "/" + strconv.Itoa(r.Rest)
		}
		readerText(t, r, want)
	}
	for mark := 0; mark <= impl.MaxPages; mark++ {
		readerText(t, reader(mark, 20, 7), strconv.Itoa(mark)+"+20/7")
	}
	for daily := 1; daily <= impl.MaxDaily; daily++ {
		readerText(t, reader(10, daily, 0), "10+"+strconv.Itoa(daily))
	}
	for rest := 2; rest <= 60; rest++ {
		readerText(t, reader(0, 1, rest), "0+1/"+strconv.Itoa(rest))
	}
}

func readerText(t *testing.T, r impl.Reader, want string) {
	t.Helper()
	text, ok := impl.ReaderText(r)
	expect(t, call("ReaderText", r), got(text, ok), got(want, true))
	parsed, ok := impl.ParseReader(want)
	expect(t, call("ParseReader", want), got(parsed, ok), got(r, true))
}

func TestReadersKeepTheirMemory(t *testing.T) {
	room := []impl.Reader{reader(0, 1, 0), reader(50, 7, 2), reader(10, 20, 7), reader(99, 99, 9)}
	before := got(room)
	order, ok := impl.OrderOnDay(100, room[:3], 3)
	expect(t, "OrderOnDay", got(order, ok), got([]int{2, 1, 0}, true))
	impl.FirstAtEnd(100, room[:3])
	impl.TogetherPages(room[:3], 3)
	expect(t, "the room of readers", got(room), before)
	order[0] = -1
	again, _ := impl.OrderOnDay(100, room[:3], 3)
	expect(t, "a second OrderOnDay", again, []int{2, 1, 0})
}
