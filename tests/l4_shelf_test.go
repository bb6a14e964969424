package tests

import (
	"strconv"
	"strings"
	"testing"

	"loop.example/g01394/impl"
)

func shelf(cover int, thick ...int) impl.Shelf {
	return impl.Shelf{Thick: thick, Cover: cover}
}

// someShelves has shelves of one volume up to MaxStanding, with the thinnest and the thickest pages and covers, and some between.
func someShelves() []impl.Shelf {
	thicks := []int{1, 100, 30, 7, 99, 2, 50, 64}
	var shelves []impl.Shelf
	for _, cover := range []int{0, 1, 2, 9, impl.MaxCover} {
		for many := 1; many <= impl.MaxStanding; many++ {
			thin, thick, rising := shelf(cover), shelf(cover), shelf(cover)
			for k := range many {
				thin.Thick = append(thin.Thick, 1)
				thick.Thick = append(thick.Thick, impl.MaxThick)
				rising.Thick = append(rising.Thick, 10+k)
			}
			shelves = append(shelves, thin, thick, rising)
			for step := 1; step <= 7; step += 2 {
				mixed := shelf(cover)
				for k := range many {
					mixed.Thick = append(mixed.Thick, thicks[(k*step+many)%len(thicks)])
				}
				shelves = append(shelves, mixed)
			}
		}
	}
	return shelves
}

// layer is one cover, or all pages of one volume.
type layer struct {
	volume int
	wide   int
	pages  bool
}

func layersOf(s impl.Shelf) []layer {
	var layers []layer
	for volume, thick := range s.Thick {
		cover := layer{volume, s.Cover, false}
		layers = append(layers, cover, layer{volume, thick, true}, cover)
	}
	return layers
}

func wideOf(layers []layer) int {
	wide := 0
	for _, l := range layers {
		wide += l.wide
	}
	return wide
}

// plainFace returns how many layers are on the left of a face.
func plainFace(volume int, last bool) int {
	if last {
		return 3*volume + 1
	}
	return 3*volume + 2
}

// plainWorm returns the layers through which a worm goes.
func plainWorm(s impl.Shelf, a int, lastA bool, b int, lastB bool) []layer {
	from, to := plainFace(a, lastA), plainFace(b, lastB)
	return layersOf(s)[min(from, to):max(from, to)]
}

// allWorms hands on all ways of worms on a shelf.
func allWorms(s impl.Shelf, look func(a int, lastA bool, b int, lastB bool)) {
	for a := range s.Thick {
		for b := range s.Thick {
			for _, lastA := range []bool{false, true} {
				for _, lastB := range []bool{false, true} {
					look(a, lastA, b, lastB)
				}
			}
		}
	}
}

func TestShelfExample(t *testing.T) {
	s := shelf(2, 30, 20, 40)
	parsed, ok := impl.ParseShelf("30,20,40c2")
	expect(t, "ParseShelf", got(parsed, ok), got(s, true))
	text, ok := impl.ShelfText(s)
	expect(t, "ShelfText", got(text, ok), got("30,20,40c2", true))
	n, ok := impl.WormEats(s, 0, false, 2, true)
	expect(t, "WormEats of 0 first 2 last", got(n, ok), got(28, true))
	n, ok = impl.CoversEaten(s, 0, false, 2, true)
	expect(t, "CoversEaten of 0 first 2 last", got(n, ok), got(4, true))
	eaten, ok := impl.PagesEaten(s, 0, false, 2, true)
	expect(t, "PagesEaten of 0 first 2 last", got(eaten, ok), got([]int{1}, true))
	n, ok = impl.WormEats(s, 0, true, 2, false)
	expect(t, "WormEats of 0 last 2 first", got(n, ok), got(98, true))
	a, b, ok := impl.LongestWorm(s)
	expect(t, "LongestWorm", got(a, b, ok), got(2, 0, true))
	n, ok = impl.ShelvesFor(s, 60)
	expect(t, "ShelvesFor 60", got(n, ok), got(2, true))
	places, ok := impl.ShelfOf(s, 60)
	expect(t, "ShelfOf 60", got(places, ok), got([]int{0, 0, 1}, true))
	n, ok = impl.LeastShelf(s, 2)
	expect(t, "LeastShelf of 2", got(n, ok), got(58, true))
}

func TestConsoleExampleOfShelves(t *testing.T) {
	s := shelf(2, 30, 20, 40)
	n, ok := impl.WidthOf(s)
	expect(t, "WidthOf", got(n, ok), got(102, true))
	swapped, ok := impl.SwapVolumes(s, 0, 2)
	expect(t, "SwapVolumes", got(swapped, ok), got(shelf(2, 40, 20, 30), true))
}

func TestIsShelf(t *testing.T) {
	for _, s := range someShelves() {
		expect(t, call("IsShelf", s), impl.IsShelf(s), true)
	}
	for thick := 1; thick <= impl.MaxThick; thick++ {
		expect(t, call("IsShelf", thick), impl.IsShelf(shelf(0, thick)), true)
		expect(t, call("IsShelf", thick), impl.IsShelf(shelf(10, 1, 100, 1, 100, 1, 100, 1, thick)), true)
	}
	for cover := 0; cover <= impl.MaxCover; cover++ {
		expect(t, call("IsShelf", cover), impl.IsShelf(shelf(cover, 1)), true)
	}
	for _, s := range noShelves() {
		expect(t, call("IsShelf", len(s.Thick), s.Cover), impl.IsShelf(s), false)
	}
}

func TestPlacesAndFaces(t *testing.T) {
	for _, s := range someShelves() {
		layers := layersOf(s)
		n, ok := impl.WidthOf(s)
		expect(t, call("WidthOf", s), got(n, ok), got(wideOf(layers), true))
		for volume := range s.Thick {
			left, right, ok := impl.PlaceOfVolume(s, volume)
			expect(t, call("PlaceOfVolume", s, volume), got(left, right, ok), got(wideOf(layers[:3*volume]), wideOf(layers[:3*volume+3]), true))
			for _, last := range []bool{false, true} {
				n, ok := impl.FaceOf(s, volume, last)
				expect(t, call("FaceOf", s, volume, last), got(n, ok), got(wideOf(layers[:plainFace(volume, last)]), true))
			}
		}
	}
}

func TestFacesByHand(t *testing.T) {
	for _, c := range []struct {
		s      impl.Shelf
		volume int
		places string
		last   int
		first  int
	}{
		{shelf(2, 30, 20, 40), 0, got(0, 34, true), 2, 32},
		{shelf(2, 30, 20, 40), 1, got(34, 58, true), 36, 56},
		{shelf(2, 30, 20, 40), 2, got(58, 102, true), 60, 100},
		{shelf(0, 1), 0, got(0, 1, true), 0, 1},
		{shelf(0, 30, 20, 40), 1, got(30, 50, true), 30, 50},
		{shelf(10, 100), 0, got(0, 120, true), 10, 110},
		{shelf(10, 100, 100, 100, 100, 100, 100, 100, 100), 7, got(840, 960, true), 850, 950},
	} {
		left, right, ok := impl.PlaceOfVolume(c.s, c.volume)
		expect(t, call("PlaceOfVolume", c.s, c.volume), got(left, right, ok), c.places)
		n, ok := impl.FaceOf(c.s, c.volume, true)
		expect(t, call("FaceOf the last page", c.s, c.volume), got(n, ok), got(c.last, true))
		n, ok = impl.FaceOf(c.s, c.volume, false)
		expect(t, call("FaceOf the first page", c.s, c.volume), got(n, ok), got(c.first, true))
	}
	n, ok := impl.WidthOf(shelf(10, 100, 100, 100, 100, 100, 100, 100, 100))
	expect(t, "the greatest WidthOf", got(n, ok), got(960, true))
	n, ok = impl.WidthOf(shelf(0, 1))
	expect(t, "the least WidthOf", got(n, ok), got(1, true))
}

func TestWorms(t *testing.T) {
	for _, s := range someShelves() {
		allWorms(s, func(a int, lastA bool, b int, lastB bool) {
			covers, eaten := 0, []int{}
			way := plainWorm(s, a, lastA, b, lastB)
			for _, l := range way {
				if l.pages {
					eaten = append(eaten, l.volume)
				} else {
					covers++
				}
			}
			n, ok := impl.WormEats(s, a, lastA, b, lastB)
			expect(t, call("WormEats", s, a, lastA, b, lastB), got(n, ok), got(wideOf(way), true))
			n, ok = impl.CoversEaten(s, a, lastA, b, lastB)
			expect(t, call("CoversEaten", s, a, lastA, b, lastB), got(n, ok), got(covers, true))
			list, ok := impl.PagesEaten(s, a, lastA, b, lastB)
			expect(t, call("PagesEaten", s, a, lastA, b, lastB), got(notNil(list), ok), got(eaten, true))
		})
	}
}

func TestWormsByHand(t *testing.T) {
	for _, c := range []struct {
		s          impl.Shelf
		a          int
		lastA      bool
		b          int
		lastB      bool
		far        int
		covers     int
		eaten      []int
		whatItGoes string
	}{
		{shelf(2, 30, 20, 40), 1, true, 1, false, 20, 0, []int{1}, "through all pages of one volume"},
		{shelf(2, 30, 20, 40), 1, false, 1, true, 20, 0, []int{1}, "through all pages of one volume, to the left"},
		{shelf(2, 30, 20, 40), 1, false, 1, false, 0, 0, []int{}, "nowhere"},
		{shelf(2, 30, 20, 40), 1, true, 1, true, 0, 0, []int{}, "nowhere"},
		{shelf(2, 30, 20, 40), 0, false, 1, true, 4, 2, []int{}, "through two covers alone"},
		{shelf(2, 30, 20, 40), 1, true, 0, false, 4, 2, []int{}, "through two covers alone, to the left"},
		{shelf(2, 30, 20, 40), 2, true, 0, false, 28, 4, []int{1}, "to the left"},
		{shelf(2, 30, 20, 40), 2, false, 0, true, 98, 4, []int{0, 1, 2}, "from end to end, to the left"},
		{shelf(2, 30, 20, 40), 2, true, 0, true, 58, 4, []int{0, 1}, "from last to last, to the left"},
		{shelf(2, 30, 20, 40), 0, false, 2, false, 68, 4, []int{1, 2}, "from first to first"},
		{shelf(0, 30, 20, 40), 0, false, 2, true, 20, 4, []int{1}, "through covers as thin as nothing"},
		{shelf(0, 30, 20, 40), 0, false, 1, true, 0, 2, []int{}, "through covers as thin as nothing alone"},
		{shelf(0, 30, 20, 40), 2, false, 0, true, 90, 4, []int{0, 1, 2}, "through all covers as thin as nothing"},
		{shelf(10, 100), 0, true, 0, false, 100, 0, []int{0}, "through a shelf of one volume"},
		{shelf(10, 100, 100, 100, 100, 100, 100, 100, 100), 0, true, 7, false, 940, 14, []int{0, 1, 2, 3, 4, 5, 6, 7}, "as far as can be"},
	} {
		n, ok := impl.WormEats(c.s, c.a, c.lastA, c.b, c.lastB)
		expect(t, "WormEats "+c.whatItGoes, got(n, ok), got(c.far, true))
		n, ok = impl.CoversEaten(c.s, c.a, c.lastA, c.b, c.lastB)
		expect(t, "CoversEaten "+c.whatItGoes, got(n, ok), got(c.covers, true))
		eaten, ok := impl.PagesEaten(c.s, c.a, c.lastA, c.b, c.lastB)
		expect(t, "PagesEaten "+c.whatItGoes, got(notNil(eaten), ok), got(c.eaten, true))
	}
}

// TestWormsEatBetweenFaces holds promise 4 against the calls themselves.
func TestWormsEatBetweenFaces(t *testing.T) {
	for _, s := range someShelves() {
		allWorms(s, func(a int, lastA bool, b int, lastB bool) {
			far, _ := impl.WormEats(s, a, lastA, b, lastB)
			faceA, _ := impl.FaceOf(s, a, lastA)
			faceB, _ := impl.FaceOf(s, b, lastB)
			expect(t, call("from face to face", s, a, lastA, b, lastB), far, max(faceA-faceB, faceB-faceA))
			covers, _ := impl.CoversEaten(s, a, lastA, b, lastB)
			eaten, _ := impl.PagesEaten(s, a, lastA, b, lastB)
			between := covers * s.Cover
			for _, volume := range eaten {
				between += s.Thick[volume]
			}
			expect(t, call("what is eaten", s, a, lastA, b, lastB), between, far)
		})
	}
}

func TestLongestWorm(t *testing.T) {
	for _, s := range someShelves() {
		longest, want := -1, got(0, 0, false)
		for a := range s.Thick {
			for b := range s.Thick {
				if far := wideOf(plainWorm(s, a, false, b, true)); a != b && far > longest {
					longest, want = far, got(a, b, true)
				}
			}
		}
		a, b, ok := impl.LongestWorm(s)
		expect(t, call("LongestWorm", s), got(a, b, ok), want)
	}
	a, b, ok := impl.LongestWorm(shelf(0, 1, 1))
	expect(t, "LongestWorm of the thinnest two", got(a, b, ok), got(1, 0, true))
	wantZero(t, "LongestWorm", impl.LongestWorm, shelf(2, 30))
}

func TestSwapVolumes(t *testing.T) {
	for _, s := range someShelves() {
		for a := range s.Thick {
			for b := range s.Thick {
				want := shelf(s.Cover)
				for volume, thick := range s.Thick {
					switch volume {
					case a:
						thick = s.Thick[b]
					case b:
						thick = s.Thick[a]
					}
					want.Thick = append(want.Thick, thick)
				}
				swapped, ok := impl.SwapVolumes(s, a, b)
				expect(t, call("SwapVolumes", s, a, b), got(swapped, ok), got(want, true))
			}
		}
	}
}

// plainShelfOf puts one volume behind the other on the last shelf, or on a new one.
func plainShelfOf(s impl.Shelf, wide int) ([]int, bool) {
	places, on, used := []int{}, 0, 0
	for _, thick := range s.Thick {
		width := thick + s.Cover + s.Cover
		if width > wide {
			return nil, false
		}
		if used+width > wide {
			on, used = on+1, 0
		}
		used += width
		places = append(places, on)
	}
	return places, true
}

// cutting is one way to put all volumes on shelves: how many these are, and how wide the widest has to be.
type cutting struct{ shelves, wide int }

// allCuttings parts the volumes in all ways, behind any of them but the last one.
func allCuttings(s impl.Shelf) []cutting {
	var all []cutting
	for cuts := range 1 << (len(s.Thick) - 1) {
		c, used := cutting{shelves: 1}, 0
		for volume, thick := range s.Thick {
			used += thick + 2*s.Cover
			c.wide = max(c.wide, used)
			if cuts>>volume&1 == 1 {
				c.shelves++
				used = 0
			}
		}
		all = append(all, c)
	}
	return all
}

// fewestShelves returns 0 if no cutting is enough.
func fewestShelves(all []cutting, wide int) int {
	fewest := 0
	for _, c := range all {
		if c.wide <= wide && (fewest == 0 || c.shelves < fewest) {
			fewest = c.shelves
		}
	}
	return fewest
}

func TestShelvesFor(t *testing.T) {
	for _, s := range someShelves() {
		all := allCuttings(s)
		width := wideOf(layersOf(s))
		for wide := 1; wide <= impl.MaxShelf; wide++ {
			if wide > width+2 && wide < impl.MaxShelf-1 {
				continue
			}
			want := fewestShelves(all, wide)
			n, ok := impl.ShelvesFor(s, wide)
			if n != want || ok != (want > 0) {
				t.Errorf("ShelvesFor(%v, %d) is %d, %v, not %d", s, wide, n, ok, want)
			}
			places, ok := impl.ShelfOf(s, wide)
			wantPlaces, can := plainShelfOf(s, wide)
			expect(t, call("ShelfOf", s, wide), got(notNil(places), ok), got(notNil(wantPlaces), can))
		}
	}
}

func TestShelvesForByHand(t *testing.T) {
	for _, c := range []struct {
		s      impl.Shelf
		wide   int
		places []int
	}{
		{shelf(2, 30, 20, 40), 44, []int{0, 1, 2}}, {shelf(2, 30, 20, 40), 57, []int{0, 1, 2}}, {shelf(2, 30, 20, 40), 58, []int{0, 0, 1}}, {shelf(2, 30, 20, 40), 101, []int{0, 0, 1}}, {shelf(2, 30, 20, 40), 102, []int{0, 0, 0}}, {shelf(2, 30, 20, 40), 2000, []int{0, 0, 0}},
		// The second shelf has room for the last volume, but not behind the third one.
		{shelf(0, 50, 10, 45, 5), 50, []int{0, 1, 2, 2}}, {shelf(0, 50, 10, 45, 5), 55, []int{0, 1, 1, 2}}, {shelf(0, 50, 10, 45, 5), 60, []int{0, 0, 1, 1}},
		{shelf(0, 1), 1, []int{0}}, {shelf(10, 100), 120, []int{0}}, {shelf(0, 1, 1, 1, 1, 1, 1, 1, 1), 1, []int{0, 1, 2, 3, 4, 5, 6, 7}}, {shelf(0, 1, 1, 1, 1, 1, 1, 1, 1), 3, []int{0, 0, 0, 1, 1, 1, 2, 2}},
		{shelf(10, 100, 100, 100, 100, 100, 100, 100, 100), 239, []int{0, 1, 2, 3, 4, 5, 6, 7}}, {shelf(10, 100, 100, 100, 100, 100, 100, 100, 100), 240, []int{0, 0, 1, 1, 2, 2, 3, 3}}, {shelf(10, 100, 100, 100, 100, 100, 100, 100, 100), 960, []int{0, 0, 0, 0, 0, 0, 0, 0}},
	} {
		places, ok := impl.ShelfOf(c.s, c.wide)
		expect(t, call("ShelfOf", c.s, c.wide), got(places, ok), got(c.places, true))
		n, ok := impl.ShelvesFor(c.s, c.wide)
		expect(t, call("ShelvesFor", c.s, c.wide), got(n, ok), got(c.places[len(c.places)-1]+1, true))
	}
	// One volume is wider than the shelf: the first one, one between, the last one.
	for _, c := range []struct {
		s    impl.Shelf
		wide int
	}{{shelf(2, 30, 20, 10), 33}, {shelf(2, 20, 30, 10), 33}, {shelf(2, 20, 10, 30), 33}, {shelf(2, 30), 33}, {shelf(0, 2), 1}, {shelf(10, 1), 20}, {shelf(10, 100), 119}} {
		wantZero(t, "ShelvesFor", impl.ShelvesFor, c.s, c.wide)
		wantZero(t, "ShelfOf", impl.ShelfOf, c.s, c.wide)
	}
}

func TestLeastShelf(t *testing.T) {
	for _, s := range someShelves() {
		all := allCuttings(s)
		for shelves := 1; shelves <= impl.MaxStanding; shelves++ {
			least := impl.MaxShelf
			for _, c := range all {
				if c.shelves <= shelves {
					least = min(least, c.wide)
				}
			}
			n, ok := impl.LeastShelf(s, shelves)
			expect(t, call("LeastShelf", s, shelves), got(n, ok), got(least, true))
			needed, ok := impl.ShelvesFor(s, least)
			if !ok || needed > shelves {
				t.Errorf("%v needs %d shelves %d wide, not %d", s, needed, least, shelves)
			}
		}
	}
}

func TestLeastShelfByHand(t *testing.T) {
	for _, c := range []struct {
		s       impl.Shelf
		shelves int
		wide    int
	}{
		{shelf(2, 30, 20, 40), 1, 102}, {shelf(2, 30, 20, 40), 2, 58}, {shelf(2, 30, 20, 40), 3, 44},
		// More shelves than volumes are no matter.
		{shelf(2, 30, 20, 40), 4, 44}, {shelf(2, 30, 20, 40), 8, 44}, {shelf(0, 1), 1, 1}, {shelf(0, 1), 8, 1},
		{shelf(10, 100, 100, 100, 100, 100, 100, 100, 100), 1, 960}, {shelf(10, 100, 100, 100, 100, 100, 100, 100, 100), 3, 360}, {shelf(10, 100, 100, 100, 100, 100, 100, 100, 100), 7, 240}, {shelf(10, 100, 100, 100, 100, 100, 100, 100, 100), 8, 120},
		{shelf(0, 1, 2, 3, 4, 5, 6, 7, 8), 3, 15}, {shelf(0, 8, 7, 6, 5, 4, 3, 2, 1), 3, 15}, {shelf(0, 50, 10, 45, 5), 2, 60},
	} {
		n, ok := impl.LeastShelf(c.s, c.shelves)
		expect(t, call("LeastShelf", c.s, c.shelves), got(n, ok), got(c.wide, true))
	}
}

func shelfText(t *testing.T, s impl.Shelf) {
	t.Helper()
	var numbers []string
	for _, thick := range s.Thick {
		numbers = append(numbers, strconv.Itoa(thick))
	}
	want := strings.Join(numbers, ",") + "c" + strconv.Itoa(s.Cover)
	text, ok := impl.ShelfText(s)
	expect(t, call("ShelfText", s), got(text, ok), got(want, true))
	parsed, ok := impl.ParseShelf(want)
	expect(t, call("ParseShelf", want), got(parsed, ok), got(s, true))
}

func TestShelfTexts(t *testing.T) {
	for _, s := range someShelves() {
		shelfText(t, s)
	}
	for thick := 1; thick <= impl.MaxThick; thick++ {
		for cover := 0; cover <= impl.MaxCover; cover++ {
			shelfText(t, shelf(cover, thick))
			shelfText(t, shelf(cover, 100, 100, 100, thick, 100, 100, 100, 100))
		}
	}
	s, ok := impl.ParseShelf("100,100,100,100,100,100,100,100c10")
	expect(t, "ParseShelf of the longest text", got(s, ok), got(shelf(10, 100, 100, 100, 100, 100, 100, 100, 100), true))
	s, ok = impl.ParseShelf("1c0")
	expect(t, "ParseShelf of the shortest text", got(s, ok), got(shelf(0, 1), true))
}

func TestShelvesKeepTheirMemory(t *testing.T) {
	room := []int{30, 20, 40, 99, 98}
	s := impl.Shelf{Thick: room[:3], Cover: 2}
	impl.IsShelf(s)
	impl.WidthOf(s)
	impl.PlaceOfVolume(s, 1)
	impl.LongestWorm(s)
	impl.ShelvesFor(s, 60)
	impl.LeastShelf(s, 2)
	impl.ShelfText(s)
	allWorms(s, func(a int, lastA bool, b int, lastB bool) {
		impl.FaceOf(s, a, lastA)
		impl.WormEats(s, a, lastA, b, lastB)
		impl.CoversEaten(s, a, lastA, b, lastB)
	})
	for name, list := range map[string]func() []int{
		"PagesEaten":               func() []int { l, _ := impl.PagesEaten(s, 0, true, 2, false); return l },
		"ShelfOf":                  func() []int { l, _ := impl.ShelfOf(s, 60); return l },
		"SwapVolumes":              func() []int { swapped, _ := impl.SwapVolumes(s, 0, 2); return swapped.Thick },
		"SwapVolumes of one":       func() []int { swapped, _ := impl.SwapVolumes(s, 1, 1); return swapped.Thick },
		"ParseShelf of some shelf": func() []int { parsed, _ := impl.ParseShelf("30,20,40c2"); return parsed.Thick },
	} {
		wantOwnMemory(t, name, list, room, -1)
	}
	expect(t, "the room of shelves", got(room), got([]int{30, 20, 40, 99, 98}))
}
