package tests

import (
	"fmt"
	"math"
	"slices"
	"testing"

	"loop.example/g00720/impl"
)

// bursty is a right Config of that Burst and Most.
func bursty(burst int64, most int64) impl.Config {
	c := ordinaryConfig()
	c.Burst, c.Most = burst, most
	return c
}

// smallBursty are all Configs whose Burst and Most are that small.
func smallBursty() []impl.Config {
	var all []impl.Config
	for burst := int64(1); burst <= 6; burst++ {
		for most := int64(1); most <= 13; most++ {
			all = append(all, bursty(burst, most))
		}
	}
	return all
}

// wideBursty have Burst and Most at their least and their greatest, and between: the one less than, the same as, and greater than the other, and than its double.
func wideBursty() []impl.Config {
	all := append(rightConfigs(), bursty(1, 99999), bursty(1, 100000), bursty(3, 100000), bursty(999, 100000), bursty(1000, 99999))
	for _, burst := range []int64{1, 2, 3, 10, 100, 512, 999, 1000} {
		for _, most := range []int64{1, 2, 3, 4, 15, 16, 17, burst - 1, burst, burst + 1, 2*burst - 1, 2 * burst, 2*burst + 1, 1000, 1001} {
			if most >= 1 {
				all = append(all, bursty(burst, most))
			}
		}
	}
	return all
}

// rightBursts are all that a Config may have, counted out: such as are looking, and such as are in a gap.
func rightBursts(c impl.Config) []impl.Burst {
	var all []impl.Burst
	for gap := int64(1); gap <= c.Most; gap++ {
		for left := int64(1); left <= c.Burst; left++ {
			all = append(all, impl.Burst{Left: left, Skip: 0, Gap: gap})
		}
		for skip := int64(1); skip <= c.Most; skip++ {
			all = append(all, impl.Burst{Left: 0, Skip: skip, Gap: gap})
		}
	}
	return all
}

// edgeBursts are right ones of a Config, each number at its ends and in the middle.
func edgeBursts(c impl.Config) []impl.Burst {
	var all []impl.Burst
	for _, gap := range []int64{1, (c.Most + 1) / 2, c.Most} {
		for _, left := range []int64{1, (c.Burst + 1) / 2, c.Burst} {
			all = append(all, impl.Burst{Left: left, Skip: 0, Gap: gap})
		}
		for _, skip := range []int64{1, (c.Most + 1) / 2, c.Most} {
			all = append(all, impl.Burst{Left: 0, Skip: skip, Gap: gap})
		}
	}
	return all
}

// wrongBursts have one number that the Config does not allow, or have both of Left and Skip 0, or neither.
func wrongBursts(c impl.Config) []impl.Burst {
	all := []impl.Burst{
		{},
		{Left: 0, Skip: 0, Gap: 1},
		{Left: 0, Skip: 0, Gap: c.Most},
		{Left: 1, Skip: 1, Gap: 1},
		{Left: c.Burst, Skip: c.Most, Gap: c.Most},
		{Left: c.Burst, Skip: 1, Gap: 1},
		{Left: 1, Skip: c.Most, Gap: c.Most},
		{Left: -1, Skip: -1, Gap: -1},
	}
	for _, b := range edgeBursts(c) {
		for _, far := range []int64{1, 2, 1000, 1 << 31, 1 << 32} {
			all = append(all,
				impl.Burst{Left: -far, Skip: b.Skip, Gap: b.Gap},
				impl.Burst{Left: c.Burst + far, Skip: b.Skip, Gap: b.Gap},
				impl.Burst{Left: b.Left, Skip: -far, Gap: b.Gap},
				impl.Burst{Left: b.Left, Skip: c.Most + far, Gap: b.Gap},
				impl.Burst{Left: b.Left, Skip: b.Skip, Gap: 1 - far},
				impl.Burst{Left: b.Left, Skip: b.Skip, Gap: c.Most + far})
		}
		for _, far := range []int64{math.MinInt64, math.MinInt64 + 1, math.MaxInt64 - 1, math.MaxInt64} {
			all = append(all,
				impl.Burst{Left: far, Skip: b.Skip, Gap: b.Gap},
				impl.Burst{Left: b.Left, Skip: far, Gap: b.Gap},
				impl.Burst{Left: b.Left, Skip: b.Skip, Gap: far},
				impl.Burst{Left: far, Skip: far, Gap: far})
		}
	}
	return all
}

// A moment is one step's answer.
type moment struct {
	behind impl.Burst
	looked bool
}

// gapBehind is the gap after one of that length.
func gapBehind(gap int64, most int64) int64 {
	if gap > most-gap {
		return most
	}
	return gap + gap
}

// courseFrom tells the steps from a right Burst on, stretch by stretch: all that is left to look at, a gap, a whole burst, a longer gap, and so on.
func courseFrom(c impl.Config, b impl.Burst, size int64) []moment {
	course := []moment{}
	looks, gap := b.Left, b.Gap
	for skips := b.Skip; int64(len(course)) < size; skips, gap = gap, gapBehind(gap, c.Most) {
		for passed := int64(1); passed < skips; passed++ {
			course = append(course, moment{impl.Burst{Skip: skips - passed, Gap: gap}, false})
		}
		if skips > 0 {
			course = append(course, moment{impl.Burst{Left: c.Burst, Gap: gap}, false})
			looks = c.Burst
		}
		for done := int64(1); done < looks; done++ {
			course = append(course, moment{impl.Burst{Left: looks - done, Gap: gap}, true})
		}
		course = append(course, moment{impl.Burst{Skip: gap, Gap: gapBehind(gap, c.Most)}, true})
	}
	return course[:size]
}

// wholeCourse is so many steps that the gap is the greatest one at least twice.
func wholeCourse(c impl.Config) int64 { return 20*c.Burst + 4*c.Most + 50 }

func burstOk(t *testing.T, c impl.Config, b impl.Burst, want bool) {
	t.Helper()
	if impl.BurstOk(c, b) != want {
		t.Fatalf("%+v of %+v: not %v", b, c, want)
	}
}

func burstStep(t *testing.T, c impl.Config, b impl.Burst, want moment) {
	t.Helper()
	behind, looked := impl.BurstStep(c, b)
	if behind != want.behind || looked != want.looked {
		t.Fatalf("%+v of Burst %d and Most %d: %+v and %v, not %+v and %v", b, c.Burst, c.Most, behind, looked, want.behind, want.looked)
	}
}

// burstRuns steps from a Burst on, and fails at the first step that differs from the course.
func burstRuns(t *testing.T, c impl.Config, b impl.Burst, course []moment) {
	t.Helper()
	for _, want := range course {
		burstStep(t, c, b, want)
		b = want.behind
	}
}

// noBurst fails where anything but the zero Burst and false is answered, or the Burst is taken for a right one.
func noBurst(t *testing.T, c impl.Config, b impl.Burst) {
	t.Helper()
	burstOk(t, c, b, false)
	burstStep(t, c, b, moment{})
}

func TestBurstOkOfSmallConfigs(t *testing.T) {
	for _, c := range smallBursty() {
		right := map[impl.Burst]bool{}
		for _, b := range rightBursts(c) {
			right[b] = true
		}
		for left := int64(-2); left <= c.Burst+2; left++ {
			for skip := int64(-2); skip <= c.Most+2; skip++ {
				for gap := int64(-2); gap <= c.Most+2; gap++ {
					b := impl.Burst{Left: left, Skip: skip, Gap: gap}
					burstOk(t, c, b, right[b])
				}
			}
		}
	}
}

func TestBurstOkAtTheLimits(t *testing.T) {
	for _, c := range wideBursty() {
		for _, b := range edgeBursts(c) {
			burstOk(t, c, b, true)
		}
		for _, b := range wrongBursts(c) {
			burstOk(t, c, b, false)
		}
	}
}

// Each number by itself, from its least to its greatest and one beyond either, the other ones right.
func TestBurstOkWrittenOut(t *testing.T) {
	for _, c := range []struct {
		burst, most int64
		b           impl.Burst
		want        bool
	}{
		{20, 30, impl.Burst{Left: -1, Skip: 0, Gap: 7}, false},
		{20, 30, impl.Burst{Left: -1, Skip: 7, Gap: 7}, false},
		{20, 30, impl.Burst{Left: 0, Skip: 7, Gap: 7}, true},
		{20, 30, impl.Burst{Left: 1, Skip: 0, Gap: 7}, true},
		{20, 30, impl.Burst{Left: 19, Skip: 0, Gap: 7}, true},
		{20, 30, impl.Burst{Left: 20, Skip: 0, Gap: 7}, true},
		{20, 30, impl.Burst{Left: 21, Skip: 0, Gap: 7}, false},
		{20, 30, impl.Burst{Left: 30, Skip: 0, Gap: 7}, false},
		{20, 30, impl.Burst{Left: 7, Skip: -1, Gap: 7}, false},
		{20, 30, impl.Burst{Left: 0, Skip: -1, Gap: 7}, false},
		{20, 30, impl.Burst{Left: 7, Skip: 0, Gap: 7}, true},
		{20, 30, impl.Burst{Left: 0, Skip: 1, Gap: 7}, true},
		{20, 30, impl.Burst{Left: 0, Skip: 29, Gap: 7}, true},
		{20, 30, impl.Burst{Left: 0, Skip: 30, Gap: 7}, true},
		{20, 30, impl.Burst{Left: 0, Skip: 31, Gap: 7}, false},
		{20, 30, impl.Burst{Left: 7, Skip: 0, Gap: -1}, false},
		{20, 30, impl.Burst{Left: 7, Skip: 0, Gap: 0}, false},
		{20, 30, impl.Burst{Left: 7, Skip: 0, Gap: 1}, true},
		{20, 30, impl.Burst{Left: 7, Skip: 0, Gap: 30}, true},
		{20, 30, impl.Burst{Left: 7, Skip: 0, Gap: 31}, false},
		{20, 30, impl.Burst{Left: 0, Skip: 7, Gap: 0}, false},
		{20, 30, impl.Burst{Left: 0, Skip: 7, Gap: 1}, true},
		{20, 30, impl.Burst{Left: 0, Skip: 7, Gap: 30}, true},
		{20, 30, impl.Burst{Left: 0, Skip: 7, Gap: 31}, false},
		{20, 30, impl.Burst{Left: 0, Skip: 0, Gap: 7}, false},
		{20, 30, impl.Burst{Left: 1, Skip: 1, Gap: 7}, false},
		{20, 30, impl.Burst{Left: 20, Skip: 30, Gap: 30}, false},
		{30, 20, impl.Burst{Left: 30, Skip: 0, Gap: 20}, true},
		{30, 20, impl.Burst{Left: 31, Skip: 0, Gap: 20}, false},
		{30, 20, impl.Burst{Left: 30, Skip: 0, Gap: 21}, false},
		{30, 20, impl.Burst{Left: 0, Skip: 20, Gap: 20}, true},
		{30, 20, impl.Burst{Left: 0, Skip: 21, Gap: 20}, false},
		{30, 20, impl.Burst{Left: 0, Skip: 30, Gap: 20}, false},
		{1, 1, impl.Burst{Left: 1, Skip: 0, Gap: 1}, true},
		{1, 1, impl.Burst{Left: 0, Skip: 1, Gap: 1}, true},
		{1, 1, impl.Burst{Left: 2, Skip: 0, Gap: 1}, false},
		{1, 1, impl.Burst{Left: 0, Skip: 2, Gap: 1}, false},
		{1, 1, impl.Burst{Left: 1, Skip: 0, Gap: 2}, false},
		{1000, 100000, impl.Burst{Left: 1000, Skip: 0, Gap: 100000}, true},
		{1000, 100000, impl.Burst{Left: 0, Skip: 100000, Gap: 100000}, true},
		{1000, 100000, impl.Burst{Left: 1001, Skip: 0, Gap: 100000}, false},
		{1000, 100000, impl.Burst{Left: 0, Skip: 100001, Gap: 100000}, false},
		{1000, 100000, impl.Burst{Left: 0, Skip: 100000, Gap: 100001}, false},
	} {
		burstOk(t, bursty(c.burst, c.most), c.b, c.want)
	}
}

// Two wrong numbers don't make up for one another, whatever they are.
func TestBurstOkAtTwoFaults(t *testing.T) {
	for _, c := range append(rightConfigs(), bursty(7, 3), bursty(3, 7)) {
		wrong := [][]int64{{-1, c.Burst + 1}, {-1, c.Most + 1}, {0, -1, c.Most + 1}}
		for field := range wrong {
			wrong[field] = append(wrong[field], math.MinInt64, math.MaxInt64, -1<<32, 1<<32)
		}
		for _, left := range wrong[0] {
			for _, skip := range wrong[1] {
				for _, gap := range wrong[2] {
					noBurst(t, c, impl.Burst{Left: left, Skip: skip, Gap: gap})
					noBurst(t, c, impl.Burst{Left: left, Skip: skip, Gap: 1})
					noBurst(t, c, impl.Burst{Left: left, Skip: 0, Gap: gap})
					noBurst(t, c, impl.Burst{Left: 0, Skip: skip, Gap: gap})
				}
			}
		}
	}
}

func TestNewBurst(t *testing.T) {
	for _, c := range []struct {
		burst, most int64
		want        impl.Burst
	}{
		{1, 1, impl.Burst{Left: 1, Gap: 1}},
		{1, 2, impl.Burst{Left: 1, Gap: 1}},
		{2, 1, impl.Burst{Left: 2, Gap: 1}},
		{2, 2, impl.Burst{Left: 2, Gap: 2}},
		{7, 6, impl.Burst{Left: 7, Gap: 6}},
		{7, 7, impl.Burst{Left: 7, Gap: 7}},
		{7, 8, impl.Burst{Left: 7, Gap: 7}},
		{7, 14, impl.Burst{Left: 7, Gap: 7}},
		{1, 100000, impl.Burst{Left: 1, Gap: 1}},
		{1000, 1, impl.Burst{Left: 1000, Gap: 1}},
		{1000, 999, impl.Burst{Left: 1000, Gap: 999}},
		{1000, 1000, impl.Burst{Left: 1000, Gap: 1000}},
		{1000, 1001, impl.Burst{Left: 1000, Gap: 1000}},
		{1000, 100000, impl.Burst{Left: 1000, Gap: 1000}},
	} {
		if got := impl.NewBurst(bursty(c.burst, c.most)); got != c.want {
			t.Errorf("Burst %d and Most %d: %+v, not %+v", c.burst, c.most, got, c.want)
		}
	}
}

func TestNewBurstIsRight(t *testing.T) {
	for _, c := range append(smallBursty(), wideBursty()...) {
		want := impl.Burst{Left: c.Burst, Gap: c.Burst}
		if c.Most < c.Burst {
			want.Gap = c.Most
		}
		if got := impl.NewBurst(c); got != want {
			t.Errorf("Burst %d and Most %d: %+v, not %+v", c.Burst, c.Most, got, want)
		}
		burstOk(t, c, want, true)
	}
}

func TestBurstsOfWrongConfigs(t *testing.T) {
	for _, c := range wrongConfigs() {
		if got := impl.NewBurst(c); got != (impl.Burst{}) {
			t.Errorf("%+v: %+v", c, got)
		}
		noBurst(t, c, impl.Burst{})
		for _, b := range []impl.Burst{
			{Left: 1, Gap: 1},
			{Skip: 1, Gap: 1},
			{Left: 1, Skip: 1, Gap: 1},
			{Left: c.Burst, Gap: min(c.Burst, c.Most)},
			{Left: c.Burst, Gap: c.Most},
			{Left: c.Burst, Gap: 1},
			{Left: 1, Gap: c.Most},
			{Skip: c.Most, Gap: c.Most},
			{Skip: c.Most, Gap: 1},
			{Skip: 1, Gap: c.Most},
			{Left: -1, Gap: 1},
			{Left: math.MaxInt64, Skip: math.MinInt64, Gap: math.MaxInt64},
		} {
			noBurst(t, c, b)
		}
	}
}

func TestBurstStepOfWrongBursts(t *testing.T) {
	for _, c := range append(wideBursty(), smallBursty()...) {
		for _, b := range wrongBursts(c) {
			burstStep(t, c, b, moment{})
		}
	}
}

// Each Burst from below what may be to above it, of small Configs: the wrong ones have no step.
func TestBurstStepOfSmallConfigs(t *testing.T) {
	for _, c := range smallBursty() {
		steps := map[impl.Burst]moment{}
		for _, b := range rightBursts(c) {
			steps[b] = courseFrom(c, b, 1)[0]
		}
		for left := int64(-2); left <= c.Burst+2; left++ {
			for skip := int64(-2); skip <= c.Most+2; skip++ {
				for gap := int64(-2); gap <= c.Most+2; gap++ {
					b := impl.Burst{Left: left, Skip: skip, Gap: gap}
					burstStep(t, c, b, steps[b])
				}
			}
		}
	}
}

// A burstCase is a Config's Burst and Most, and the steps from NewBurst on.
type burstCase struct {
	burst, most int64
	steps       []moment
}

func burstsWrittenOut() []burstCase {
	return []burstCase{
		{1, 1, []moment{
			{impl.Burst{Left: 0, Skip: 1, Gap: 1}, true},
			{impl.Burst{Left: 1, Skip: 0, Gap: 1}, false},
			{impl.Burst{Left: 0, Skip: 1, Gap: 1}, true},
			{impl.Burst{Left: 1, Skip: 0, Gap: 1}, false},
		}},
		{1, 3, []moment{
			{impl.Burst{Left: 0, Skip: 1, Gap: 2}, true},
			{impl.Burst{Left: 1, Skip: 0, Gap: 2}, false},
			{impl.Burst{Left: 0, Skip: 2, Gap: 3}, true},
			{impl.Burst{Left: 0, Skip: 1, Gap: 3}, false},
			{impl.Burst{Left: 1, Skip: 0, Gap: 3}, false},
			{impl.Burst{Left: 0, Skip: 3, Gap: 3}, true},
			{impl.Burst{Left: 0, Skip: 2, Gap: 3}, false},
			{impl.Burst{Left: 0, Skip: 1, Gap: 3}, false},
			{impl.Burst{Left: 1, Skip: 0, Gap: 3}, false},
			{impl.Burst{Left: 0, Skip: 3, Gap: 3}, true},
		}},
		{1, 4, []moment{
			{impl.Burst{Left: 0, Skip: 1, Gap: 2}, true},
			{impl.Burst{Left: 1, Skip: 0, Gap: 2}, false},
			{impl.Burst{Left: 0, Skip: 2, Gap: 4}, true},
			{impl.Burst{Left: 0, Skip: 1, Gap: 4}, false},
			{impl.Burst{Left: 1, Skip: 0, Gap: 4}, false},
			{impl.Burst{Left: 0, Skip: 4, Gap: 4}, true},
			{impl.Burst{Left: 0, Skip: 3, Gap: 4}, false},
		}},
		{3, 5, []moment{
			{impl.Burst{Left: 2, Skip: 0, Gap: 3}, true},
			{impl.Burst{Left: 1, Skip: 0, Gap: 3}, true},
			{impl.Burst{Left: 0, Skip: 3, Gap: 5}, true},
			{impl.Burst{Left: 0, Skip: 2, Gap: 5}, false},
			{impl.Burst{Left: 0, Skip: 1, Gap: 5}, false},
			{impl.Burst{Left: 3, Skip: 0, Gap: 5}, false},
			{impl.Burst{Left: 2, Skip: 0, Gap: 5}, true},
			{impl.Burst{Left: 1, Skip: 0, Gap: 5}, true},
			{impl.Burst{Left: 0, Skip: 5, Gap: 5}, true},
			{impl.Burst{Left: 0, Skip: 4, Gap: 5}, false},
		}},
		{3, 3, []moment{
			{impl.Burst{Left: 2, Skip: 0, Gap: 3}, true},
			{impl.Burst{Left: 1, Skip: 0, Gap: 3}, true},
			{impl.Burst{Left: 0, Skip: 3, Gap: 3}, true},
			{impl.Burst{Left: 0, Skip: 2, Gap: 3}, false},
			{impl.Burst{Left: 0, Skip: 1, Gap: 3}, false},
			{impl.Burst{Left: 3, Skip: 0, Gap: 3}, false},
		}},
		{4, 2, []moment{
			{impl.Burst{Left: 3, Skip: 0, Gap: 2}, true},
			{impl.Burst{Left: 2, Skip: 0, Gap: 2}, true},
			{impl.Burst{Left: 1, Skip: 0, Gap: 2}, true},
			{impl.Burst{Left: 0, Skip: 2, Gap: 2}, true},
			{impl.Burst{Left: 0, Skip: 1, Gap: 2}, false},
			{impl.Burst{Left: 4, Skip: 0, Gap: 2}, false},
			{impl.Burst{Left: 3, Skip: 0, Gap: 2}, true},
		}},
	}
}

func TestBurstsWrittenOut(t *testing.T) {
	for _, c := range burstsWrittenOut() {
		right := bursty(c.burst, c.most)
		burstRuns(t, right, impl.NewBurst(right), c.steps)
	}
}

func TestBurstStepFromNewBurstOn(t *testing.T) {
	for _, c := range append(smallBursty(), wideBursty()...) {
		b := impl.NewBurst(c)
		burstRuns(t, c, b, courseFrom(c, b, wholeCourse(c)))
	}
}

func TestBurstStepFromEveryRightBurst(t *testing.T) {
	for _, c := range smallBursty() {
		for _, b := range rightBursts(c) {
			burstRuns(t, c, b, courseFrom(c, b, 3*(c.Burst+c.Most)))
		}
	}
}

func TestBurstStepFromEdges(t *testing.T) {
	for _, c := range wideBursty() {
		// The longest gaps take long; the greatest Config stands for all that have them.
		if c.Most > 2001 && c != greatestConfig() {
			continue
		}
		for _, b := range edgeBursts(c) {
			burstRuns(t, c, b, courseFrom(c, b, b.Left+b.Skip+b.Gap+2*c.Burst+5))
		}
	}
}

// The last step of a burst: the gap is the one that was, and the next one twice as long, or the greatest.
func TestTheLastStepOfABurst(t *testing.T) {
	for _, c := range []struct{ most, gap, next int64 }{
		{1, 1, 1},
		{2, 1, 2},
		{2, 2, 2},
		{3, 1, 2},
		{3, 2, 3},
		{3, 3, 3},
		{8, 3, 6},
		{8, 4, 8},
		{8, 5, 8},
		{9, 4, 8},
		{9, 5, 9},
		{9, 9, 9},
		{1001, 500, 1000},
		{1001, 501, 1001},
		{99999, 49999, 99998},
		{99999, 50000, 99999},
		{100000, 1, 2},
		{100000, 49999, 99998},
		{100000, 50000, 100000},
		{100000, 50001, 100000},
		{100000, 65536, 100000},
		{100000, 99999, 100000},
		{100000, 100000, 100000},
	} {
		for _, burst := range []int64{1, 2, 3, 999, 1000} {
			burstStep(t, bursty(burst, c.most), impl.Burst{Left: 1, Gap: c.gap}, moment{impl.Burst{Skip: c.gap, Gap: c.next}, true})
		}
	}
}

// Every gap that there may be, of Mosts with such gaps as have a double less than, the same as and greater than it.
func TestEveryGap(t *testing.T) {
	for _, most := range []int64{1, 2, 3, 31, 32, 33, 1000, 1001, 99999, 100000} {
		c := bursty(5, most)
		for gap := int64(1); gap <= most; gap++ {
			burstStep(t, c, impl.Burst{Left: 1, Gap: gap}, moment{impl.Burst{Skip: gap, Gap: gapBehind(gap, most)}, true})
			burstStep(t, c, impl.Burst{Left: 5, Gap: gap}, moment{impl.Burst{Left: 4, Gap: gap}, true})
			burstStep(t, c, impl.Burst{Skip: 1, Gap: gap}, moment{impl.Burst{Left: 5, Gap: gap}, false})
		}
	}
}

// The steps between, and the last one of a gap, leave the Gap alone.
func TestTheStepsBetween(t *testing.T) {
	for _, gap := range []int64{1, 2, 17, 50000, 99999, 100000} {
		c := greatestConfig()
		for left := int64(2); left <= 1000; left++ {
			burstStep(t, c, impl.Burst{Left: left, Gap: gap}, moment{impl.Burst{Left: left - 1, Gap: gap}, true})
		}
		for skip := int64(2); skip <= 100000; skip++ {
			burstStep(t, c, impl.Burst{Skip: skip, Gap: gap}, moment{impl.Burst{Skip: skip - 1, Gap: gap}, false})
		}
		for _, burst := range []int64{1, 2, 500, 1000} {
			burstStep(t, bursty(burst, 100000), impl.Burst{Skip: 1, Gap: gap}, moment{impl.Burst{Left: burst, Gap: gap}, false})
		}
	}
}

// promiseOfBursts steps from a right Burst on: there are never more than Most between two looks, and what is answered is right.
func promiseOfBursts(t *testing.T, what string, c impl.Config, b impl.Burst, steps int64) {
	t.Helper()
	passed, longest := int64(0), int64(0)
	for n := range steps {
		behind, looked := impl.BurstStep(c, b)
		if looked {
			passed = 0
		} else {
			passed++
		}
		longest = max(longest, passed)
		if longest > c.Most {
			t.Fatalf("%s: %d ahead of step %d are not looked at, more than %d", what, longest, n, c.Most)
		}
		if !impl.BurstOk(c, behind) {
			t.Fatalf("%s: step %d: %+v becomes %+v, which is not right", what, n, b, behind)
		}
		b = behind
	}
	if longest == 0 {
		t.Fatalf("%s: all of %d steps are looked at", what, steps)
	}
}

// Promise 10, its first half: the first Burst steps are looked at, and no more.
func TestTheFirstBurstSteps(t *testing.T) {
	for _, c := range append(smallBursty(), wideBursty()...) {
		b, looked := impl.NewBurst(c), true
		for n := range c.Burst {
			if b, looked = impl.BurstStep(c, b); !looked {
				t.Fatalf("Burst %d and Most %d: step %d is not looked at", c.Burst, c.Most, n)
			}
		}
		if _, looked = impl.BurstStep(c, b); looked {
			t.Fatalf("Burst %d and Most %d: one step more is looked at", c.Burst, c.Most)
		}
	}
}

// Promise 10, its second half: at most Most are not looked at in a row.
func TestAtMostMostBetweenTwoLooks(t *testing.T) {
	for _, c := range append(smallBursty(), wideBursty()...) {
		what := fmt.Sprintf("Burst %d and Most %d", c.Burst, c.Most)
		promiseOfBursts(t, what, c, impl.NewBurst(c), wholeCourse(c))
	}
	for _, c := range smallBursty() {
		for _, b := range rightBursts(c) {
			promiseOfBursts(t, fmt.Sprintf("%+v of Burst %d and Most %d", b, c.Burst, c.Most), c, b, 5*(c.Burst+c.Most))
		}
	}
}

// The gaps double from the lesser one of Burst and Most on, up to Most and no further.
func TestTheGapsWrittenOut(t *testing.T) {
	for _, c := range []struct {
		burst, most int64
		gaps        []int64
	}{
		{1, 1, []int64{1, 1, 1, 1}},
		{1, 16, []int64{1, 2, 4, 8, 16, 16, 16}},
		{1, 17, []int64{1, 2, 4, 8, 16, 17, 17}},
		{1, 15, []int64{1, 2, 4, 8, 15, 15}},
		{3, 100, []int64{3, 6, 12, 24, 48, 96, 100, 100}},
		{5, 3, []int64{3, 3, 3}},
		{5, 5, []int64{5, 5, 5}},
		{5, 9, []int64{5, 9, 9}},
		{5, 10, []int64{5, 10, 10}},
		{5, 11, []int64{5, 10, 11, 11}},
		{1000, 100000, []int64{1000, 2000, 4000, 8000, 16000, 32000, 64000, 100000, 100000}},
		{1, 100000, []int64{1, 2, 4, 8, 16, 32, 64, 128, 256, 512, 1024, 2048, 4096, 8192, 16384, 32768, 65536, 100000, 100000}},
	} {
		right := bursty(c.burst, c.most)
		b, looked := impl.NewBurst(right), false
		for k, gap := range c.gaps {
			want := append(slices.Repeat([]bool{true}, int(c.burst)), slices.Repeat([]bool{false}, int(gap))...)
			for n, is := range want {
				if b, looked = impl.BurstStep(right, b); looked != is {
					t.Fatalf("Burst %d and Most %d: burst %d and its gap, step %d: not %v", c.burst, c.most, k, n, is)
				}
			}
		}
	}
}

// Of a Config the Burst and the Most alone have a say, as long as the other numbers are right: not even a Rate or a Quota of 0 has one.
func TestOtherNumbersHaveNoSayInBursts(t *testing.T) {
	for _, was := range []impl.Config{bursty(1, 1), bursty(3, 7), bursty(7, 3), bursty(5, 20)} {
		course := courseFrom(was, impl.NewBurst(was), 60)
		for _, s := range settings() {
			if s.name == "Burst" || s.name == "Most" {
				continue
			}
			for _, n := range []int64{s.least, s.least + 1, s.most - 1, s.most} {
				c := s.with(was, n)
				if impl.NewBurst(c) != impl.NewBurst(was) {
					t.Fatalf("%+v", c)
				}
				burstRuns(t, c, impl.NewBurst(c), course)
				for _, b := range wrongBursts(was) {
					noBurst(t, c, b)
				}
			}
		}
	}
}

// A Burst that one Config has right may be wrong in another one, and goes on by the one that it is stepped in.
func TestBurstsInAnotherConfig(t *testing.T) {
	configs := []impl.Config{bursty(1, 1), bursty(2, 3), bursty(3, 2), bursty(4, 9), bursty(6, 6)}
	for _, of := range configs {
		for _, b := range rightBursts(of) {
			for _, in := range configs {
				if b.Left <= in.Burst && b.Skip <= in.Most && b.Gap <= in.Most {
					burstRuns(t, in, b, courseFrom(in, b, 40))
				} else {
					noBurst(t, in, b)
				}
			}
		}
	}
}

// Promise 22: no number that there is makes a step panic, and what it makes of wrong ones is fixed.
func TestBurstsOfOddNumbers(t *testing.T) {
	for _, c := range append(rightConfigs(), impl.Config{}, bursty(2, 15), bursty(math.MaxInt64, math.MaxInt64), bursty(math.MinInt64, math.MinInt64)) {
		for _, left := range oddNumbers() {
			for _, skip := range oddNumbers() {
				for _, gap := range oddNumbers() {
					b := impl.Burst{Left: left, Skip: skip, Gap: gap}
					looking := 1 <= left && left <= c.Burst && skip == 0
					skipping := 1 <= skip && skip <= c.Most && left == 0
					if !impl.ConfigOk(c) || gap < 1 || gap > c.Most || !looking && !skipping {
						noBurst(t, c, b)
						continue
					}
					burstOk(t, c, b, true)
					burstStep(t, c, b, courseFrom(c, b, 1)[0])
				}
			}
		}
	}
}

// Several Bursts of several Configs in turn, each asked twice: none is moved on by another one's step, and none by its own but in the answer.
func TestBurstsKeepNothing(t *testing.T) {
	configs := []impl.Config{bursty(1, 1), bursty(2, 9), bursty(9, 2), bursty(5, 5), bursty(2, 9)}
	bursts := make([]impl.Burst, len(configs))
	courses := make([][]moment, len(configs))
	for k, c := range configs {
		bursts[k] = impl.NewBurst(c)
		courses[k] = courseFrom(c, bursts[k], 200)
	}
	d := dice(101)
	at := make([]int, len(configs))
	for range 700 {
		k := d.below(int64(len(configs)))
		if at[k] == len(courses[k]) {
			continue
		}
		was, want := bursts[k], courses[k][at[k]]
		impl.BurstStep(configs[k], impl.Burst{})
		burstStep(t, configs[k], bursts[k], want)
		burstStep(t, configs[k], bursts[k], want)
		if bursts[k] != was {
			t.Fatalf("%+v became %+v", was, bursts[k])
		}
		bursts[k] = want.behind
		at[k]++
	}
}
