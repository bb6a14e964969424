package tests

import (
	"slices"
	"testing"

	"loop.example/g01394/impl"
)

// parting is one way to make volumes of chapters: how many each one has, and the pages of the greatest one.
type parting struct {
	volumes  []int
	greatest int
}

// allPartings parts the chapters in all ways, behind any of them but the last one.
func allPartings(chapters []int) []parting {
	var all []parting
	for cuts := range 1 << (len(chapters) - 1) {
		var p parting
		many, pages := 0, 0
		for k, n := range chapters {
			many++
			pages += n
			p.greatest = max(p.greatest, pages)
			if cuts>>k&1 == 1 || k == len(chapters)-1 {
				p.volumes = append(p.volumes, many)
				many, pages = 0, 0
			}
		}
		all = append(all, p)
	}
	return all
}

// leastPartings returns for each number of volumes, from 1 on, the parting with the fewest pages in the greatest one, of several the first one.
func leastPartings(chapters []int) []parting {
	least := make([]parting, len(chapters))
	for _, p := range allPartings(chapters) {
		best := &least[len(p.volumes)-1]
		fewer := best.volumes == nil || p.greatest < best.greatest
		if fewer || p.greatest == best.greatest && slices.Compare(p.volumes, best.volumes) < 0 {
			*best = p
		}
	}
	return least
}

// listsToPart has chapters of very different pages, and of nearly the same.
func listsToPart() [][]int {
	lists := append(allChapters(5, 3), longChapters()...)
	return append(lists, mixedLists(2, impl.MaxChapters, 5, 2, 5, 20, impl.MaxChapter)...)
}

func TestVolumeExample(t *testing.T) {
	chapters := []int{3, 4, 5, 2}
	n, ok := impl.LeastVolume(chapters, 2)
	expect(t, "LeastVolume of 2", got(n, ok), got(7, true))
	list, ok := impl.FirstVolumes(chapters, 2)
	expect(t, "FirstVolumes of 2", got(list, ok), got([]int{2, 2}, true))
}

func TestVolumes(t *testing.T) {
	for _, chapters := range listsToPart() {
		least := leastPartings(chapters)
		for volumes := 1; volumes <= min(impl.MaxSplits, len(chapters)); volumes++ {
			want := least[volumes-1]
			n, ok := impl.LeastVolume(chapters, volumes)
			expect(t, call("LeastVolume", chapters, volumes), got(n, ok), got(want.greatest, true))
			list, ok := impl.FirstVolumes(chapters, volumes)
			expect(t, call("FirstVolumes", chapters, volumes), got(list, ok), got(want.volumes, true))
		}
	}
}

// plainVolumes returns how many volumes are enough, or 0 if no number is.
func plainVolumes(least []parting, most int) int {
	for k, p := range least {
		if p.greatest <= most {
			return k + 1
		}
	}
	return 0
}

func TestFewestVolumes(t *testing.T) {
	for _, chapters := range listsToPart() {
		least := leastPartings(chapters)
		for most := 1; most <= impl.MaxChapter*impl.MaxChapters; most++ {
			// Above all pages together nothing changes any more.
			if most > least[0].greatest+2 && most < impl.MaxChapter*impl.MaxChapters-1 {
				continue
			}
			want := plainVolumes(least, most)
			if n, ok := impl.FewestVolumes(chapters, most); n != want || ok != (want > 0) {
				t.Errorf("FewestVolumes(%v, %d) is %d, %v, not %d", chapters, most, n, ok, want)
			}
		}
	}
}

// TestVolumesAreEven holds promise 5 against the calls themselves.
func TestVolumesAreEven(t *testing.T) {
	for _, chapters := range longChapters() {
		for volumes := 1; volumes <= min(impl.MaxSplits, len(chapters)); volumes++ {
			least, _ := impl.LeastVolume(chapters, volumes)
			parted, _ := impl.FirstVolumes(chapters, volumes)
			greatest, behind := 0, chapters
			for _, many := range parted {
				pages := 0
				for _, n := range behind[:many] {
					pages += n
				}
				greatest, behind = max(greatest, pages), behind[many:]
			}
			expect(t, call("the greatest one of FirstVolumes", chapters, volumes), got(len(parted), len(behind), greatest), got(volumes, 0, least))
			if needed, ok := impl.FewestVolumes(chapters, least); !ok || needed > volumes {
				t.Errorf("%v needs %d volumes of %d pages, not %d", chapters, needed, least, volumes)
			}
			if needed, ok := impl.FewestVolumes(chapters, least-1); ok && needed <= volumes {
				t.Errorf("%v needs only %d volumes of %d pages", chapters, needed, least-1)
			}
		}
	}
}

func TestVolumesByHand(t *testing.T) {
	rise := []int{1, 2, 3, 4, 5, 6, 7, 8, 9, 10, 11, 12}
	for _, c := range []struct {
		chapters []int
		volumes  int
		least    int
		first    []int
	}{
		// One volume alone.
		{[]int{3, 4, 5, 2}, 1, 14, []int{4}}, {[]int{1}, 1, 1, []int{1}}, {[]int{120}, 1, 120, []int{1}}, {slices.Repeat([]int{120}, 12), 1, 1440, []int{12}}, {slices.Repeat([]int{1}, 12), 1, 12, []int{12}},
		// As many volumes as chapters.
		{[]int{3, 4, 5, 2}, 4, 5, []int{1, 1, 1, 1}}, {[]int{1, 120}, 2, 120, []int{1, 1}}, {[]int{120, 1}, 2, 120, []int{1, 1}}, {[]int{1, 2, 3, 4, 5}, 5, 5, []int{1, 1, 1, 1, 1}}, {[]int{5, 5, 5, 5, 5}, 5, 5, []int{1, 1, 1, 1, 1}},
		{[]int{3, 4, 5, 2}, 3, 7, []int{1, 1, 2}},
		// The longest chapter decides, so the first volumes are as short as can be, but none is without a chapter.
		{[]int{1, 1, 1, 120}, 2, 120, []int{3, 1}}, {[]int{120, 1, 1, 1}, 2, 120, []int{1, 3}}, {[]int{1, 1, 1, 120}, 3, 120, []int{1, 2, 1}}, {[]int{120, 1, 1, 1}, 3, 120, []int{1, 1, 2}}, {[]int{1, 120, 1}, 2, 121, []int{1, 2}}, {[]int{1, 1, 120, 1, 1}, 4, 120, []int{1, 1, 1, 2}},
		{rise, 2, 42, []int{8, 4}}, {rise, 3, 28, []int{7, 3, 2}}, {rise, 5, 21, []int{4, 3, 2, 2, 1}},
		{slices.Repeat([]int{120}, 12), 5, 360, []int{1, 2, 3, 3, 3}}, {slices.Repeat([]int{1}, 12), 4, 3, []int{3, 3, 3, 3}},
	} {
		n, ok := impl.LeastVolume(c.chapters, c.volumes)
		expect(t, call("LeastVolume", c.chapters, c.volumes), got(n, ok), got(c.least, true))
		list, ok := impl.FirstVolumes(c.chapters, c.volumes)
		expect(t, call("FirstVolumes", c.chapters, c.volumes), got(list, ok), got(c.first, true))
	}
}

func TestFewestVolumesByHand(t *testing.T) {
	for _, c := range []struct {
		chapters []int
		most     int
		volumes  int
	}{
		{[]int{3, 4, 5, 2}, 5, 4}, {[]int{3, 4, 5, 2}, 6, 4}, {[]int{3, 4, 5, 2}, 7, 2}, {[]int{3, 4, 5, 2}, 13, 2}, {[]int{3, 4, 5, 2}, 14, 1}, {[]int{3, 4, 5, 2}, 1440, 1},
		{[]int{1}, 1, 1}, {[]int{1}, 1440, 1}, {[]int{120}, 120, 1}, {slices.Repeat([]int{120}, 12), 1440, 1}, {slices.Repeat([]int{120}, 12), 1439, 2}, {slices.Repeat([]int{120}, 12), 719, 3},
		// There may be more of them than MaxSplits.
		{[]int{1, 1, 1, 1, 1, 1}, 1, 6}, {slices.Repeat([]int{120}, 12), 120, 12}, {slices.Repeat([]int{120}, 12), 239, 12}, {slices.Repeat([]int{120}, 12), 240, 6}, {slices.Repeat([]int{1}, 12), 1, 12},
	} {
		n, ok := impl.FewestVolumes(c.chapters, c.most)
		expect(t, call("FewestVolumes", c.chapters, c.most), got(n, ok), got(c.volumes, true))
	}
	// One chapter has too many pages: the first one, one between, the last one.
	for _, c := range []struct {
		chapters []int
		most     int
	}{{[]int{5, 1, 1}, 4}, {[]int{1, 5, 1}, 4}, {[]int{1, 1, 5}, 4}, {[]int{2}, 1}, {[]int{120}, 119}} {
		wantZero(t, "FewestVolumes", impl.FewestVolumes, c.chapters, c.most)
	}
}
