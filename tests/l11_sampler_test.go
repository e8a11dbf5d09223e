package tests

import (
	"fmt"
	"math"
	"slices"
	"testing"

	"loop.example/g00720/impl"
)

// spareOwn is right in most Configs: a read past the end of a list takes it for one of the list.
var spareOwn = impl.Own{Gor: 15, Fn: 999, Burst: impl.Burst{Left: 1, Gap: 1}}

var spoiltOwn = impl.Own{Gor: -9, Fn: -9, Burst: impl.Burst{Left: -9, Skip: -9, Gap: -9}}

// A visit is an access as Look is told of it.
type visit struct{ n, gor, fn int64 }

// watchful is a right Config of just what a sampler goes by.
func watchful(rate int64, span int64, burst int64, most int64, quota int64) impl.Config {
	return impl.Config{Rate: rate, Span: span, Burst: burst, Most: most, Quota: quota, Cells: 1, Rows: 1}
}

func allOn() impl.Config { return watchful(topRate, 10, 2, 3, 4) }

func sameSampler(a impl.Sampler, b impl.Sampler) bool {
	return slices.Equal(a.Owns, b.Owns) && a.Period == b.Period && a.Used == b.Used
}

func samplerOf(period int64, used int64, owns ...impl.Own) impl.Sampler {
	return impl.Sampler{Owns: owns, Period: period, Used: used}
}

// ownOf is an Own that has just begun.
func ownOf(c impl.Config, gor int64, fn int64) impl.Own {
	return impl.Own{Gor: gor, Fn: fn, Burst: impl.Burst{Left: c.Burst, Gap: min(c.Burst, c.Most)}}
}

// manyOwns are so many that rise, over all goroutines and from the least Fn to the greatest, their Bursts at all ends.
func manyOwns(c impl.Config, count int64) []impl.Own {
	bursts := edgeBursts(c)
	row := max(2, (count+15)/16)
	owns := []impl.Own{}
	for k := range count {
		owns = append(owns, impl.Own{Gor: k / row, Fn: k % row * (999 / (row - 1)), Burst: bursts[k%int64(len(bursts))]})
	}
	return owns
}

func samplerOk(t *testing.T, what string, c impl.Config, s impl.Sampler, want bool) {
	t.Helper()
	given := s
	given.Owns = padded(s.Owns, spareOwn)
	if impl.SamplerOk(c, given) != want {
		t.Fatalf("%s: %d Owns %+v, Period %d and Used %d of %+v: not %v", what, len(s.Owns), s.Owns, s.Period, s.Used, c, want)
	}
	staysPadded(t, what, given.Owns, s.Owns, spareOwn)
}

// looks asks twice, and fails where an answer is another one, or shares memory with the other one or with what was given.
func looks(t *testing.T, what string, c impl.Config, draws []int64, s impl.Sampler, v visit, want impl.Sampler, looked bool) {
	t.Helper()
	drawn, given := roomy(draws), s
	given.Owns = padded(s.Owns, spareOwn)
	first, is := impl.Look(c, drawn, given, v.n, v.gor, v.fn)
	second, again := impl.Look(c, drawn, given, v.n, v.gor, v.fn)
	if is != looked || !sameSampler(first, want) {
		t.Fatalf("%s: %+v in %+v of %+v and %v: %+v and %v, not %+v and %v", what, v, s, c, draws, first, is, want, looked)
	}
	if again != looked || !sameSampler(second, want) {
		t.Fatalf("%s: %+v in %+v of %+v and %v, asked again: %+v and %v, not %+v and %v", what, v, s, c, draws, second, again, want, looked)
	}
	spoilWith(second.Owns, spoiltOwn)
	if !sameSampler(first, want) {
		t.Fatalf("%s: %+v: a write to a second answer makes %+v of %+v", what, v, first, want)
	}
	spoilWith(first.Owns, spoiltOwn)
	staysPadded(t, what, given.Owns, s.Owns, spareOwn)
	stays(t, what, drawn, draws)
}

// noLook fails where anything but the zero Sampler and false is answered.
func noLook(t *testing.T, what string, c impl.Config, draws []int64, s impl.Sampler, v visit) {
	t.Helper()
	looks(t, what, c, draws, s, v, impl.Sampler{}, false)
}

// A plainSampler keeps its Owns in a list, and beside each one the course that its Burst will take.
type plainSampler struct {
	c            impl.Config
	draws        []int64
	owns         []impl.Own
	period, used int64
	courses      map[[2]int64][]moment
}

func plainFrom(c impl.Config, draws []int64, s impl.Sampler) *plainSampler {
	return &plainSampler{c: c, draws: draws, owns: slices.Clone(s.Owns), period: s.Period, used: s.Used, courses: map[[2]int64][]moment{}}
}

func plainNew(c impl.Config, draws []int64) *plainSampler {
	return plainFrom(c, draws, samplerOf(-1, 0))
}

func (p *plainSampler) told() impl.Sampler {
	return samplerOf(p.period, p.used, slices.Clone(p.owns)...)
}

// placeOf is where the Own is, or where it belongs.
func (p *plainSampler) placeOf(gor int64, fn int64) (place int, is bool) {
	for place < len(p.owns) && (p.owns[place].Gor < gor || p.owns[place].Gor == gor && p.owns[place].Fn < fn) {
		place++
	}
	return place, place < len(p.owns) && p.owns[place].Gor == gor && p.owns[place].Fn == fn
}

func (p *plainSampler) step(gor int64, fn int64) bool {
	at, is := p.placeOf(gor, fn)
	if !is {
		p.owns = slices.Insert(p.owns, at, ownOf(p.c, gor, fn))
	}
	key := [2]int64{gor, fn}
	if len(p.courses[key]) == 0 {
		p.courses[key] = courseFrom(p.c, p.owns[at].Burst, 30)
	}
	next := p.courses[key][0]
	p.courses[key] = p.courses[key][1:]
	p.owns[at].Burst = next.behind
	return next.looked
}

// plainPeriod counts the periods that are over at n.
func plainPeriod(c impl.Config, n int64) int64 {
	period := int64(0)
	for left := n - c.Span; left >= 0; left -= c.Span {
		period++
	}
	return period
}

func (p *plainSampler) look(v visit) bool {
	if !isOn(p.c, p.draws, v.n) {
		return false
	}
	if period := plainPeriod(p.c, v.n); p.period != period {
		p.period = period
		p.used = 0
	}
	wanted := p.step(v.gor, v.fn)
	granted := p.used < p.c.Quota
	if wanted && granted {
		p.used++
	}
	return wanted && granted
}

// A walk goes on with what Look answers, and holds each answer against the plain one.
type walk struct {
	plain *plainSampler
	s     impl.Sampler
}

func walkFrom(c impl.Config, draws []int64, s impl.Sampler) *walk {
	return &walk{plain: plainFrom(c, draws, s), s: s}
}

func newWalk(c impl.Config, draws []int64) *walk { return walkFrom(c, draws, impl.NewSampler()) }

func (w *walk) step(t *testing.T, what string, v visit) bool {
	t.Helper()
	c, draws := w.plain.c, w.plain.draws
	want := w.plain.look(v)
	looks(t, what, c, draws, w.s, v, w.plain.told(), want)
	samplerOk(t, what, c, w.plain.told(), true)
	w.s, _ = impl.Look(c, draws, w.s, v.n, v.gor, v.fn)
	return want
}

func TestNewSampler(t *testing.T) {
	first, second := impl.NewSampler(), impl.NewSampler()
	if !sameSampler(first, samplerOf(-1, 0)) {
		t.Fatalf("%+v", first)
	}
	spoilWith(first.Owns, spoiltOwn)
	spoiled := append(first.Owns, spoiltOwn)
	if again := append(impl.NewSampler().Owns, spareOwn); spoiled[0] != spoiltOwn || again[0] != spareOwn || !sameSampler(second, impl.NewSampler()) {
		t.Fatalf("%+v and %+v", spoiled, again)
	}
	for _, c := range append(wideBursty(), rightConfigs()...) {
		samplerOk(t, "a new one", c, impl.NewSampler(), true)
	}
}

func TestSamplerOkOfWrongConfigs(t *testing.T) {
	for _, c := range wrongConfigs() {
		for _, s := range []impl.Sampler{
			{},
			impl.NewSampler(),
			samplerOf(0, 0),
			samplerOf(0, c.Quota),
			samplerOf(3, 1, impl.Own{Gor: 1, Fn: 2, Burst: impl.Burst{Left: 1, Gap: 1}}),
			samplerOf(3, 1, impl.Own{Gor: 1, Fn: 2, Burst: impl.Burst{Skip: 1, Gap: 1}}),
			samplerOf(3, 1, ownOf(c, 1, 2)),
		} {
			samplerOk(t, "a wrong Config", c, s, false)
		}
	}
}

// None, one, MaxEvents of them, one more, and very many, all of them right.
func TestSamplerOkOfHowManyOwns(t *testing.T) {
	for _, c := range append(rightConfigs(), bursty(3, 7)) {
		for _, size := range []int64{0, 1, 2, 3, 16, 150, 255, 256, 257, 298, 299, 300} {
			samplerOk(t, "so many", c, samplerOf(5, 0, manyOwns(c, size)...), true)
		}
		for _, size := range []int64{301, 302, 511, 512, 556, 600, 1000, 15999, 16000} {
			samplerOk(t, "too many", c, samplerOf(5, 0, manyOwns(c, size)...), false)
		}
	}
	c := allOn()
	for size := range int64(320) {
		samplerOk(t, "each count", c, samplerOf(-1, 0, manyOwns(c, size)...), size <= 300)
	}
}

// ownersBeside are at both ends of what they may be, and beside one another.
func ownersBeside() [][2]int64 {
	var all [][2]int64
	for _, gor := range []int64{0, 1, 15} {
		for _, fn := range []int64{0, 1, 998, 999} {
			all = append(all, [2]int64{gor, fn})
		}
	}
	return all
}

func isBelow(a [2]int64, b [2]int64) bool { return a[0] < b[0] || a[0] == b[0] && a[1] < b[1] }

// All pairs and threes of some owners: Gor goes ahead of Fn, and no two are alike, whatever their Bursts.
func TestSamplerOkOfOwnsThatRise(t *testing.T) {
	c := bursty(4, 6)
	right := edgeBursts(c)
	own := func(owner [2]int64, k int) impl.Own {
		return impl.Own{Gor: owner[0], Fn: owner[1], Burst: right[k%len(right)]}
	}
	for i, a := range ownersBeside() {
		samplerOk(t, "one", c, samplerOf(0, 0, own(a, i)), true)
		for j, b := range ownersBeside() {
			samplerOk(t, "a pair", c, samplerOf(0, 0, own(a, i), own(b, j)), isBelow(a, b))
			samplerOk(t, "a pair with one Burst", c, samplerOf(0, 0, own(a, i), own(b, i)), isBelow(a, b))
			for k, o := range ownersBeside() {
				samplerOk(t, "three", c, samplerOf(0, 0, own(a, i), own(b, j), own(o, k)), isBelow(a, b) && isBelow(b, o))
			}
		}
	}
}

// At each place of a full list: two that changed places, two alike, and one that falls in Gor or in Fn alone.
func TestSamplerOkOfOwnsThatDoNotRise(t *testing.T) {
	c := bursty(4, 6)
	full := manyOwns(c, 300)
	faulty := func(what string, at int, with impl.Own) {
		t.Helper()
		owns := slices.Clone(full)
		owns[at] = with
		samplerOk(t, fmt.Sprint(what, " at ", at), c, samplerOf(0, 0, owns...), false)
	}
	for at := 1; at < len(full); at++ {
		swapped := slices.Clone(full)
		swapped[at-1], swapped[at] = swapped[at], swapped[at-1]
		samplerOk(t, fmt.Sprint("swapped at ", at), c, samplerOf(0, 0, swapped...), false)
		faulty("alike", at, full[at-1])
		faulty("alike but for its Burst", at, impl.Own{Gor: full[at-1].Gor, Fn: full[at-1].Fn, Burst: full[at].Burst})
		faulty("of the owner behind it", at-1, impl.Own{Gor: full[at].Gor, Fn: full[at].Fn, Burst: full[at-1].Burst})
		if full[at-1].Gor > 0 {
			faulty("of a lower Gor, a greater Fn", at, impl.Own{Gor: full[at-1].Gor - 1, Fn: 999, Burst: full[at].Burst})
		}
		if full[at-1].Fn > 0 {
			faulty("of a lower Fn", at, impl.Own{Gor: full[at-1].Gor, Fn: full[at-1].Fn - 1, Burst: full[at].Burst})
		}
	}
}

// An Own alone, and as the first, the middle and the last one of several, each number by itself.
func TestSamplerOkAtTheLimitsOfAnOwn(t *testing.T) {
	c := bursty(20, 30)
	burst := impl.Burst{Left: 7, Gap: 9}
	for _, n := range append(oddNumbers(), 998, 999, 1000, 1001, 65535, 1<<32+5) {
		samplerOk(t, "Gor", c, samplerOf(0, 0, impl.Own{Gor: n, Fn: 5, Burst: burst}), 0 <= n && n <= 15)
		samplerOk(t, "Fn", c, samplerOf(0, 0, impl.Own{Gor: 5, Fn: n, Burst: burst}), 0 <= n && n <= 999)
		samplerOk(t, "Gor of the last one", c, samplerOf(0, 0, ownOf(c, 0, 9), ownOf(c, 1, 9), impl.Own{Gor: n, Fn: 5, Burst: burst}), 2 <= n && n <= 15)
		samplerOk(t, "Fn of the last one", c, samplerOf(0, 0, ownOf(c, 0, 9), ownOf(c, 1, 9), impl.Own{Gor: 2, Fn: n, Burst: burst}), 0 <= n && n <= 999)
		samplerOk(t, "Gor of the first one", c, samplerOf(0, 0, impl.Own{Gor: n, Fn: 5, Burst: burst}, ownOf(c, 15, 6), ownOf(c, 15, 9)), 0 <= n && n <= 15)
		samplerOk(t, "Fn of the first one", c, samplerOf(0, 0, impl.Own{Gor: 5, Fn: n, Burst: burst}, ownOf(c, 6, 0), ownOf(c, 6, 1)), 0 <= n && n <= 999)
		samplerOk(t, "Fn of the middle one", c, samplerOf(0, 0, ownOf(c, 4, 999), impl.Own{Gor: 5, Fn: n, Burst: burst}, ownOf(c, 6, 0)), 0 <= n && n <= 999)
		samplerOk(t, "both", c, samplerOf(0, 0, impl.Own{Gor: n, Fn: n, Burst: burst}), 0 <= n && n <= 15)
	}
}

func TestSamplerOkAtTheLimitsOfABurst(t *testing.T) {
	for _, c := range append(rightConfigs(), bursty(20, 30), bursty(30, 20), bursty(1, 2), bursty(2, 1)) {
		full := manyOwns(c, 300)
		for at, lists := range [][]impl.Own{full[:1], full[:1:1], full[:2], full[:3], full} {
			place := []int{0, 0, 1, 1, 299}[at]
			for _, b := range edgeBursts(c) {
				owns := slices.Clone(lists)
				owns[place].Burst = b
				samplerOk(t, "a right Burst", c, samplerOf(0, 0, owns...), true)
			}
			for _, b := range wrongBursts(c) {
				owns := slices.Clone(lists)
				owns[place].Burst = b
				samplerOk(t, "a wrong Burst", c, samplerOf(0, 0, owns...), false)
			}
		}
	}
	for at := range 300 {
		owns := manyOwns(bursty(20, 30), 300)
		owns[at].Burst = impl.Burst{Left: 1, Skip: 1, Gap: 1}
		samplerOk(t, fmt.Sprint("a wrong Burst at ", at), bursty(20, 30), samplerOf(0, 0, owns...), false)
	}
}

func quotas() []int64 { return []int64{0, 1, 2, 40, 300, 99999, 100000} }

// Period and Used at their ends and beyond, with no Owns, some and all that there may be: neither hangs on the other one, nor on the Span.
func TestSamplerOkAtTheLimitsOfPeriodAndUsed(t *testing.T) {
	for _, quota := range quotas() {
		for _, span := range []int64{1, 10, 1000} {
			c := watchful(0, span, 20, 30, quota)
			for _, size := range []int64{0, 1, 300} {
				owns := manyOwns(c, size)
				for _, n := range append(oddNumbers(), -2, 150, 299, 300, 301, 1<<32+5) {
					samplerOk(t, "Period", c, samplerOf(n, 0, owns...), -1 <= n && n <= 300)
					samplerOk(t, "Period", c, samplerOf(n, quota, owns...), -1 <= n && n <= 300)
				}
				for _, n := range append(oddNumbers(), quota-1, quota, quota+1, quota+1<<32, -quota) {
					for _, period := range []int64{-1, 0, 300} {
						samplerOk(t, "Used", c, samplerOf(period, n, owns...), 0 <= n && n <= quota)
					}
				}
			}
		}
	}
}

// A told is an access, whether it is looked at, and the Sampler behind it.
type told struct {
	visit  visit
	looked bool
	behind impl.Sampler
}

// Period 1 is off, and 4 has no draw. Burst is 2, Most 3, Quota 2: two looked at, two passed over, two looked at, three passed over.
func TestLookWrittenOut(t *testing.T) {
	c := watchful(500000, 4, 2, 3, 2)
	draws := []int64{0, 500000, 499999, 7}
	own := func(gor int64, fn int64, left int64, skip int64, gap int64) impl.Own {
		return impl.Own{Gor: gor, Fn: fn, Burst: impl.Burst{Left: left, Skip: skip, Gap: gap}}
	}
	s := impl.NewSampler()
	for at, step := range []told{
		{visit{4, 3, 5}, false, samplerOf(-1, 0)},
		{visit{16, 3, 5}, false, samplerOf(-1, 0)},
		{visit{0, 3, 5}, true, samplerOf(0, 1, own(3, 5, 1, 0, 2))},
		{visit{1, 3, 4}, true, samplerOf(0, 2, own(3, 4, 1, 0, 2), own(3, 5, 1, 0, 2))},
		{visit{2, 3, 5}, false, samplerOf(0, 2, own(3, 4, 1, 0, 2), own(3, 5, 0, 2, 3))},
		{visit{2, 2, 9}, false, samplerOf(0, 2, own(2, 9, 1, 0, 2), own(3, 4, 1, 0, 2), own(3, 5, 0, 2, 3))},
		{visit{3, 2, 9}, false, samplerOf(0, 2, own(2, 9, 0, 2, 3), own(3, 4, 1, 0, 2), own(3, 5, 0, 2, 3))},
		{visit{5, 3, 4}, false, samplerOf(0, 2, own(2, 9, 0, 2, 3), own(3, 4, 1, 0, 2), own(3, 5, 0, 2, 3))},
		{visit{8, 3, 5}, false, samplerOf(2, 0, own(2, 9, 0, 2, 3), own(3, 4, 1, 0, 2), own(3, 5, 0, 1, 3))},
		{visit{9, 3, 4}, true, samplerOf(2, 1, own(2, 9, 0, 2, 3), own(3, 4, 0, 2, 3), own(3, 5, 0, 1, 3))},
		{visit{10, 3, 5}, false, samplerOf(2, 1, own(2, 9, 0, 2, 3), own(3, 4, 0, 2, 3), own(3, 5, 2, 0, 3))},
		{visit{11, 3, 5}, true, samplerOf(2, 2, own(2, 9, 0, 2, 3), own(3, 4, 0, 2, 3), own(3, 5, 1, 0, 3))},
		{visit{11, 3, 5}, false, samplerOf(2, 2, own(2, 9, 0, 2, 3), own(3, 4, 0, 2, 3), own(3, 5, 0, 3, 3))},
		{visit{12, 0, 0}, true, samplerOf(3, 1, own(0, 0, 1, 0, 2), own(2, 9, 0, 2, 3), own(3, 4, 0, 2, 3), own(3, 5, 0, 3, 3))},
		{visit{15, 15, 999}, true, samplerOf(3, 2, own(0, 0, 1, 0, 2), own(2, 9, 0, 2, 3), own(3, 4, 0, 2, 3), own(3, 5, 0, 3, 3), own(15, 999, 1, 0, 2))},
		{visit{3, 0, 0}, true, samplerOf(0, 1, own(0, 0, 0, 2, 3), own(2, 9, 0, 2, 3), own(3, 4, 0, 2, 3), own(3, 5, 0, 3, 3), own(15, 999, 1, 0, 2))},
		{visit{7, 0, 0}, false, samplerOf(0, 1, own(0, 0, 0, 2, 3), own(2, 9, 0, 2, 3), own(3, 4, 0, 2, 3), own(3, 5, 0, 3, 3), own(15, 999, 1, 0, 2))},
		{visit{299, 5, 5}, false, samplerOf(0, 1, own(0, 0, 0, 2, 3), own(2, 9, 0, 2, 3), own(3, 4, 0, 2, 3), own(3, 5, 0, 3, 3), own(15, 999, 1, 0, 2))},
	} {
		looks(t, fmt.Sprint("step ", at), c, draws, s, step.visit, step.behind, step.looked)
		samplerOk(t, fmt.Sprint("behind step ", at), c, step.behind, true)
		s, _ = impl.Look(c, draws, s, step.visit.n, step.visit.gor, step.visit.fn)
	}
}

// Where n is not on the Sampler is as it is, with whatever Owns, Period and Used.
func TestLookWhereItIsNotOn(t *testing.T) {
	off := func(what string, c impl.Config, draws []int64, n int64) {
		t.Helper()
		for _, size := range []int64{0, 1, 2, 299, 300} {
			owns := manyOwns(c, size)
			for _, s := range []impl.Sampler{samplerOf(-1, 0, owns...), samplerOf(0, c.Quota, owns...), samplerOf(n/c.Span, c.Quota, owns...), samplerOf(300, 0, owns...)} {
				for _, owner := range [][2]int64{{0, 0}, {0, 1}, {7, 500}, {15, 999}} {
					looks(t, what, c, draws, s, visit{n, owner[0], owner[1]}, s, false)
				}
			}
		}
	}
	c := watchful(500000, 10, 2, 3, 4)
	off("a draw of Rate", c, []int64{500000, 0}, 0)
	off("a draw of more than Rate", c, []int64{0, 999999, 0}, 19)
	off("no draws", c, nil, 0)
	off("behind the last draw", c, []int64{0, 0}, 20)
	off("far behind the last draw", c, []int64{0, 0}, 299)
	off("a Rate of 0", watchful(0, 10, 2, 3, 4), manyOf(300, 0), 5)
	off("a Rate of 0, at the last place", watchful(0, 1, 2, 3, 4), manyOf(300, 0), 299)
	off("the last draw", watchful(1, 1, 2, 3, 4), append(manyOf(299, 0), 1), 299)
}

// Every pair of Periods: at another one Used is 0 again, be it a greater or a lower one; at the same one it goes on.
func TestLookInAnotherPeriod(t *testing.T) {
	for _, span := range []int64{1, 7, 10, 1000} {
		c := watchful(topRate, span, 5, 6, 3)
		draws := manyOf(300, 0)
		own := impl.Own{Gor: 2, Fn: 8, Burst: impl.Burst{Left: 4, Gap: 5}}
		after := impl.Own{Gor: 2, Fn: 8, Burst: impl.Burst{Left: 3, Gap: 5}}
		for _, period := range []int64{-1, 0, 1, 2, 14, 29, 30, 31, 41, 42, 43, 149, 298, 299, 300} {
			for used := int64(0); used <= 3; used++ {
				for _, n := range []int64{0, 1, 6, 7, 9, 10, 13, 14, 149, 290, 293, 294, 298, 299} {
					now := plainPeriod(c, n)
					want, looked := samplerOf(now, 1, after), true
					if now == period && used < 3 {
						want.Used = used + 1
					}
					if now == period && used == 3 {
						want.Used, looked = 3, false
					}
					looks(t, "a Period ahead", c, draws, samplerOf(period, used, own), visit{n, 2, 8}, want, looked)
				}
			}
		}
	}
}

// The first access of a period that isn't looked at, too, makes it the Period, and Used 0.
func TestAPeriodThatBeginsInAGap(t *testing.T) {
	c := watchful(topRate, 5, 2, 9, 3)
	draws := manyOf(60, 0)
	for skip := int64(1); skip <= 9; skip++ {
		own := impl.Own{Gor: 2, Fn: 8, Burst: impl.Burst{Skip: skip, Gap: 4}}
		after := impl.Own{Gor: 2, Fn: 8, Burst: impl.Burst{Skip: skip - 1, Gap: 4}}
		if skip == 1 {
			after.Burst = impl.Burst{Left: 2, Gap: 4}
		}
		for _, n := range []int64{0, 4, 10, 299} {
			period := plainPeriod(c, n)
			looks(t, "another period", c, draws, samplerOf(1, 2, own), visit{n, 2, 8}, samplerOf(period, 0, after), false)
			looks(t, "the same period", c, draws, samplerOf(period, 2, own), visit{n, 2, 8}, samplerOf(period, 2, after), false)
		}
	}
}

// Each Burst goes on by its step, and no other Own by any, whether the quota allows the look or is used up.
func TestLookStepsTheBurst(t *testing.T) {
	draws := []int64{0}
	for _, base := range append(smallBursty(), bursty(1000, 100000), bursty(1, 100000), bursty(1000, 1)) {
		for _, quota := range []int64{0, 1, 5} {
			c := watchful(topRate, 10, base.Burst, base.Most, quota)
			for used := int64(0); used <= quota; used++ {
				for _, b := range edgeBursts(c) {
					first, last := ownOf(c, 2, 7), ownOf(c, 2, 9)
					next := courseFrom(c, b, 1)[0]
					looked := next.looked && used < quota
					want := samplerOf(0, used, first, impl.Own{Gor: 2, Fn: 8, Burst: next.behind}, last)
					if looked {
						want.Used++
					}
					looks(t, "a step", c, draws, samplerOf(0, used, first, impl.Own{Gor: 2, Fn: 8, Burst: b}, last), visit{9, 2, 8}, want, looked)
				}
			}
		}
	}
}

// The same accesses by a quota that is soon used up and by one that never is: the Bursts are the same ones.
func TestABurstGoesOnWhereTheQuotaIsUsedUp(t *testing.T) {
	draws := manyOf(300, 0)
	d := dice(111)
	for _, most := range []int64{1, 2, 5, 9} {
		free := newWalk(watchful(topRate, 6, 3, most, 100000), draws)
		var tight []*walk
		for quota := range int64(4) {
			tight = append(tight, newWalk(watchful(topRate, 6, 3, most, quota), draws))
		}
		for n := range int64(300) {
			v := visit{n, d.below(2), d.below(2)}
			free.step(t, "a great quota", v)
			for quota, w := range tight {
				w.step(t, fmt.Sprint("a quota of ", quota), v)
				if !slices.Equal(w.s.Owns, free.s.Owns) {
					t.Fatalf("a quota of %d, at %d: %+v, not %+v", quota, n, w.s.Owns, free.s.Owns)
				}
			}
		}
	}
}

func TestAQuotaOfNone(t *testing.T) {
	c := watchful(topRate, 4, 2, 3, 0)
	w := newWalk(c, manyOf(75, 0))
	for n := range int64(300) {
		if w.step(t, "a quota of 0", visit{n, n % 3, n % 5}) {
			t.Fatalf("%d is looked at", n)
		}
		if w.s.Used != 0 || w.s.Period != n/4 {
			t.Fatalf("behind %d: %+v", n, w.s)
		}
	}
	if len(w.s.Owns) != 15 {
		t.Fatalf("%d Owns", len(w.s.Owns))
	}
}

// An owner that has no Own yet: ahead of all, between two, behind all, with others of its goroutine or of its function.
func TestLookOfANewOwner(t *testing.T) {
	c := allOn()
	gone := func(gor int64, fn int64) impl.Own {
		return impl.Own{Gor: gor, Fn: fn, Burst: impl.Burst{Skip: 2, Gap: 1}}
	}
	old := []impl.Own{gone(1, 10), gone(1, 20), gone(3, 5), gone(3, 999), gone(14, 0)}
	begun := impl.Burst{Left: 1, Gap: 2}
	for _, one := range []struct {
		gor, fn int64
		place   int
	}{
		{0, 0, 0}, {0, 10, 0}, {0, 999, 0}, {1, 0, 0}, {1, 9, 0},
		{1, 11, 1}, {1, 15, 1}, {1, 19, 1},
		{1, 21, 2}, {1, 999, 2}, {2, 0, 2}, {2, 10, 2}, {2, 999, 2}, {3, 0, 2}, {3, 4, 2},
		{3, 6, 3}, {3, 10, 3}, {3, 998, 3},
		{4, 0, 4}, {4, 5, 4}, {13, 999, 4},
		{14, 1, 5}, {14, 999, 5}, {15, 0, 5}, {15, 5, 5}, {15, 999, 5},
	} {
		want := slices.Insert(slices.Clone(old), one.place, impl.Own{Gor: one.gor, Fn: one.fn, Burst: begun})
		looks(t, "a new owner", c, []int64{0}, samplerOf(0, 1, old...), visit{3, one.gor, one.fn}, samplerOf(0, 2, want...), true)
		looks(t, "a new owner, the quota used up", c, []int64{0}, samplerOf(0, 4, old...), visit{3, one.gor, one.fn}, samplerOf(0, 4, want...), false)
		looks(t, "the first owner", c, []int64{0}, impl.NewSampler(), visit{3, one.gor, one.fn}, samplerOf(0, 1, impl.Own{Gor: one.gor, Fn: one.fn, Burst: begun}), true)
	}
}

// Every owner that there may be is one of its own, at the ends of what Gor and Fn may be, too.
func TestOwnersAreApart(t *testing.T) {
	c := watchful(topRate, 300, 1, 1, 300)
	for _, a := range ownersBeside() {
		for _, b := range ownersBeside() {
			w := newWalk(c, []int64{0})
			w.step(t, "the first one", visit{0, a[0], a[1]})
			if looked := w.step(t, "the second one", visit{1, b[0], b[1]}); looked != (a != b) {
				t.Fatalf("%v behind %v: %v", b, a, looked)
			}
		}
	}
	w := newWalk(c, []int64{0})
	for _, o := range ownersBeside() {
		w.step(t, "all of them", visit{5, o[0], o[1]})
	}
	for _, o := range ownersBeside() {
		w.step(t, "all of them again", visit{5, o[0], o[1]})
	}
}

// As many Owns as there may be: one more is refused where it would begin, all else goes on.
func TestLookAtMaxEventsOwns(t *testing.T) {
	for _, quota := range []int64{0, 300, 1000} {
		c := watchful(500000, 100, 2, 3, quota)
		draws := []int64{0, 500000, 0}
		w := newWalk(c, draws)
		for k := range int64(300) {
			w.step(t, "one more", visit{k % 100, k * 7 % 16, k * 3})
		}
		full := w.plain.told()
		if len(full.Owns) != 300 {
			t.Fatalf("%d Owns", len(full.Owns))
		}
		for _, owner := range [][2]int64{{0, 1}, {0, 999}, {7, 500}, {15, 0}, {15, 999}} {
			for _, n := range []int64{0, 99, 200, 299} {
				noLook(t, "one too many", c, draws, full, visit{n, owner[0], owner[1]})
			}
			for _, n := range []int64{100, 199} {
				looks(t, "not on", c, draws, full, visit{n, owner[0], owner[1]}, full, false)
			}
			looks(t, "no draw", c, draws[:1], full, visit{299, owner[0], owner[1]}, full, false)
		}
		for _, own := range full.Owns {
			w.step(t, "one that there is", visit{250, own.Gor, own.Fn})
		}
		room := full
		room.Owns = full.Owns[:299]
		walkFrom(c, draws, room).step(t, "room for one", visit{1, 15, 999})
	}
}

// A lookFault is one argument that is not right.
type lookFault struct {
	what string
	put  func(c *impl.Config, draws *[]int64, s *impl.Sampler, v *visit)
}

func placeFaults() []lookFault {
	var all []lookFault
	for _, n := range append(oddNumbers(), 299, 300, 301, 999, 1000, 1001, 1<<32+5) {
		if n < 0 || n > 299 {
			all = append(all, lookFault{fmt.Sprint("n ", n), func(_ *impl.Config, _ *[]int64, _ *impl.Sampler, v *visit) { v.n = n }})
		}
		if n < 0 || n > 15 {
			all = append(all, lookFault{fmt.Sprint("gor ", n), func(_ *impl.Config, _ *[]int64, _ *impl.Sampler, v *visit) { v.gor = n }})
		}
		if n < 0 || n > 999 {
			all = append(all, lookFault{fmt.Sprint("fn ", n), func(_ *impl.Config, _ *[]int64, _ *impl.Sampler, v *visit) { v.fn = n }})
		}
	}
	return all
}

func configFaults() []lookFault {
	all := []lookFault{{"no Config", func(c *impl.Config, _ *[]int64, _ *impl.Sampler, _ *visit) { *c = impl.Config{} }}}
	for _, one := range settings() {
		for _, n := range one.wrongs() {
			all = append(all, lookFault{fmt.Sprint(one.name, " of ", n), func(c *impl.Config, _ *[]int64, _ *impl.Sampler, _ *visit) { *c = one.with(*c, n) }})
		}
	}
	return all
}

func drawsFaults() []lookFault {
	var all []lookFault
	for _, wrong := range []int64{-1, topRate, math.MinInt64, math.MaxInt64} {
		for _, at := range []int{0, 1, 2, 3} {
			all = append(all, lookFault{fmt.Sprint("a draw of ", wrong, " at ", at), func(_ *impl.Config, draws *[]int64, _ *impl.Sampler, _ *visit) {
				*draws = slices.Clone(*draws)
				(*draws)[at] = wrong
			}})
		}
	}
	for _, size := range []int{301, 302, 600, 1<<16 + 1} {
		all = append(all, lookFault{fmt.Sprint(size, " draws"), func(_ *impl.Config, draws *[]int64, _ *impl.Sampler, _ *visit) { *draws = manyOf(size, 0) }})
	}
	return all
}

func samplerFaults() []lookFault {
	var all []lookFault
	add := func(what string, put func(s *impl.Sampler)) {
		all = append(all, lookFault{what, func(_ *impl.Config, _ *[]int64, s *impl.Sampler, _ *visit) {
			s.Owns = slices.Clone(s.Owns)
			put(s)
		}})
	}
	for _, n := range []int64{math.MinInt64, -2, 301, math.MaxInt64} {
		add(fmt.Sprint("Period ", n), func(s *impl.Sampler) { s.Period = n })
	}
	for _, n := range []int64{math.MinInt64, -1, 5, math.MaxInt64} {
		add(fmt.Sprint("Used ", n), func(s *impl.Sampler) { s.Used = n })
	}
	for at := range 3 {
		add("Gor too low", func(s *impl.Sampler) { s.Owns[at].Gor = -1 })
		add("Gor too great", func(s *impl.Sampler) { s.Owns[at].Gor = 16 })
		add("Fn too low", func(s *impl.Sampler) { s.Owns[at].Fn = -1 })
		add("Fn too great", func(s *impl.Sampler) { s.Owns[at].Fn = 1000 })
		add("no Burst", func(s *impl.Sampler) { s.Owns[at].Burst = impl.Burst{} })
		add("two alike", func(s *impl.Sampler) { s.Owns[at] = s.Owns[(at+1)%3] })
		add("two that changed places", func(s *impl.Sampler) { s.Owns[at], s.Owns[(at+1)%3] = s.Owns[(at+1)%3], s.Owns[at] })
	}
	add("too many Owns", func(s *impl.Sampler) { s.Owns = manyOwns(allOn(), 301) })
	return all
}

// Each wrong argument alone, and with another one: the zero Sampler and false, be n on or not, be there an Own or not.
func TestLookOfWrongArguments(t *testing.T) {
	faults := slices.Concat(configFaults(), drawsFaults(), samplerFaults(), placeFaults())
	for _, v := range []visit{{3, 4, 50}, {3, 5, 50}, {13, 4, 50}, {45, 4, 50}, {23, 4, 49}} {
		for k, fault := range faults {
			c, draws, s, at := allOn(), []int64{0, 999999, 0, 0}, samplerOf(0, 1, ownOf(allOn(), 2, 50), ownOf(allOn(), 4, 50), ownOf(allOn(), 4, 60)), v
			c.Rate = 500000
			looks(t, "none", c, draws, s, at, walked(c, draws, s, at), isOn(c, draws, v.n))
			fault.put(&c, &draws, &s, &at)
			noLook(t, fault.what, c, draws, s, at)
			for _, other := range []lookFault{faults[0], faults[(k*7+11)%len(faults)], faults[len(faults)-1]} {
				c, draws, s, at := c, slices.Clone(draws), s, at
				if len(draws) == 4 && len(s.Owns) == 3 {
					other.put(&c, &draws, &s, &at)
					noLook(t, fault.what+" and "+other.what, c, draws, s, at)
				}
			}
		}
	}
}

// walked is the plain Sampler behind one access.
func walked(c impl.Config, draws []int64, s impl.Sampler, v visit) impl.Sampler {
	p := plainFrom(c, draws, s)
	p.look(v)
	return p.told()
}

// All wrong draws, and all wrong Configs, at n that would be on.
func TestLookOfWrongDrawsAndConfigs(t *testing.T) {
	for _, draws := range drawsThatAre(false) {
		noLook(t, "wrong draws", allOn(), draws, impl.NewSampler(), visit{0, 0, 0})
		noLook(t, "wrong draws, not on", watchful(0, 1, 2, 3, 4), draws, impl.NewSampler(), visit{299, 0, 0})
	}
	for _, draws := range drawsThatAre(true) {
		newWalk(allOn(), draws).step(t, "right draws", visit{0, 0, 0})
	}
	for _, c := range wrongConfigs() {
		noLook(t, "a wrong Config", c, []int64{0}, impl.NewSampler(), visit{0, 0, 0})
		noLook(t, "a wrong Config, the zero Sampler", c, nil, impl.Sampler{}, visit{0, 0, 0})
		noLook(t, "a wrong Config, an Own", c, manyOf(300, 0), samplerOf(0, 0, ownOf(c, 0, 0)), visit{0, 0, 0})
	}
}

// Promise 22: no numbers make a look panic.
func TestLookOfOddNumbers(t *testing.T) {
	for _, c := range []impl.Config{allOn(), leastConfig(), greatestConfig(), {}} {
		draws := manyOf(300, 0)
		for _, n := range append(oddNumbers(), 299, 300, 999, 1000) {
			for _, m := range append(oddNumbers(), 299, 300, 999, 1000) {
				s := samplerOf(n, m)
				ok := impl.ConfigOk(c) && -1 <= n && n <= 300 && 0 <= m && m <= c.Quota
				samplerOk(t, "odd", c, s, ok)
				if ok {
					looks(t, "odd", c, draws, s, visit{5, 3, 7}, walked(c, draws, s, visit{5, 3, 7}), plainFrom(c, draws, s).look(visit{5, 3, 7}))
				} else {
					noLook(t, "odd", c, draws, s, visit{5, 3, 7})
				}
				for _, v := range []visit{{n, m, 5}, {n, 5, m}, {5, n, m}} {
					right := impl.ConfigOk(c) && 0 <= v.n && v.n <= 299 && 0 <= v.gor && v.gor <= 15 && 0 <= v.fn && v.fn <= 999
					if right {
						newWalk(c, draws).step(t, "odd", v)
					} else {
						noLook(t, "odd", c, draws, impl.NewSampler(), v)
					}
				}
			}
		}
	}
}

// All rows of four accesses out of some, from NewSampler on: two owners, at the ends of periods that are on and off, in any order.
func TestLookOfShortRows(t *testing.T) {
	draws := []int64{1, 999999, 2}
	var some []visit
	for _, n := range []int64{0, 2, 3, 6, 8, 9} {
		some = append(some, visit{n, 1, 5}, visit{n, 0, 7})
	}
	row := make([]int, 4)
	for _, c := range []impl.Config{watchful(500000, 3, 1, 1, 1), watchful(500000, 3, 2, 3, 2), watchful(500000, 3, 1, 2, 0), watchful(topRate, 3, 1, 1, 2)} {
		for k := range len(some) * len(some) * len(some) * len(some) {
			for at := range row {
				row[at] = k % len(some)
				k /= len(some)
			}
			p, s := plainNew(c, draws), impl.NewSampler()
			for _, at := range row {
				v := some[at]
				want := p.look(v)
				looked := false
				s, looked = impl.Look(c, draws, s, v.n, v.gor, v.fn)
				if looked != want || s.Period != p.period || s.Used != p.used || !slices.Equal(s.Owns, p.owns) {
					t.Fatalf("%v of %v by %+v: %+v and %v, not %+v and %v", row, some, c, s, looked, p.told(), want)
				}
			}
		}
	}
}

// thrownConfig has small numbers, and now and then a Rate or a Quota of 0, or the greatest Rate.
func (d *dice) thrownConfig() impl.Config {
	c := watchful(d.below(topRate), 1+d.below(12), 1+d.below(5), 1+d.below(8), d.below(6))
	if d.below(3) == 0 {
		c.Rate = topRate
	}
	if d.below(10) == 0 {
		c.Quota = 100000
	}
	return c
}

// Long rows of accesses from NewSampler on: from 0 to 299, and in any order.
func TestLookByTheWords(t *testing.T) {
	looked, passed := 0, 0
	for seed := range dice(60) {
		d := 1100 + seed
		c := d.thrownConfig()
		draws := d.draws(d.below(301))
		if seed%2 == 0 {
			draws = d.draws(300 / c.Span)
		}
		gors, fns := 1+d.below(4), 1+d.below(4)
		w := newWalk(c, draws)
		for n := range int64(300) {
			v := visit{n, d.below(gors), d.below(fns)}
			if seed%3 == 0 {
				v.n = d.below(300)
			}
			if seed%5 == 0 {
				v.gor, v.fn = 15-v.gor, 999-v.fn
			}
			if w.step(t, fmt.Sprint("row ", seed), v) {
				looked++
			} else {
				passed++
			}
		}
	}
	if looked < 500 || passed < 500 {
		t.Fatal(looked, passed)
	}
}

// From Samplers that no row of accesses leads to, right ones all the same.
func TestLookFromAnyRightSampler(t *testing.T) {
	for seed := range dice(300) {
		d := 2200 + seed
		c := d.thrownConfig()
		draws := d.draws(d.below(40))
		owns := []impl.Own{}
		for _, own := range manyOwns(c, 300) {
			if d.below(60) == 0 {
				owns = append(owns, own)
			}
		}
		w := walkFrom(c, draws, samplerOf(d.below(302)-1, d.below(c.Quota+1), owns...))
		for range 12 {
			v := visit{d.below(1+c.Span*int64(len(draws))) % 300, d.below(16), d.below(1000)}
			if k := d.below(int64(len(owns) + 1)); k < int64(len(owns)) {
				v.gor, v.fn = owns[k].Gor, owns[k].Fn
			}
			w.step(t, fmt.Sprint("sampler ", seed), v)
		}
	}
}

// The greatest numbers that a Config may have, and the least ones.
func TestLookAtTheEndsOfConfigs(t *testing.T) {
	draws := manyOf(300, 0)
	for _, c := range []impl.Config{watchful(topRate, 1000, 1000, 100000, 100000), watchful(1, 1, 1, 1, 100000), watchful(1, 1, 1000, 1, 0), watchful(1, 1000, 1, 100000, 1)} {
		w := newWalk(c, draws)
		for n := range int64(300) {
			w.step(t, "the ends", visit{n, n % 2 * 15, n % 3 / 2 * 999})
		}
		for _, s := range []impl.Sampler{samplerOf(0, c.Quota, manyOwns(c, 300)...), samplerOf(299, 0, manyOwns(c, 300)...), samplerOf(300, c.Quota, manyOwns(c, 300)...)} {
			for k := range 20 {
				own := s.Owns[k*299/19]
				walkFrom(c, draws, s).step(t, "the ends of Bursts", visit{299, own.Gor, own.Fn})
				walkFrom(c, draws, s).step(t, "the ends of Bursts", visit{0, own.Gor, own.Fn})
			}
		}
	}
}

// Cells and Rows have no say, as long as they are right.
func TestCellsAndRowsHaveNoSayInLooks(t *testing.T) {
	base := watchful(700000, 5, 2, 3, 2)
	d := dice(113)
	draws := d.draws(60)
	list := accesses(&d, 300, 3, 3)
	want := plainLooks(base, draws, list)
	for _, cells := range []int64{1, 2, 512} {
		for _, rows := range []int64{1, 2, 64} {
			c := base
			c.Cells, c.Rows = cells, rows
			lookedIn(t, "other Cells and Rows", c, draws, list, want)
			newWalk(c, draws).step(t, "other Cells and Rows", visit{7, 2, 2})
		}
	}
}

// accesses are reads and writes alone, of few goroutines in few functions.
func accesses(d *dice, size int, gors int64, fns int64) []impl.Event {
	list := []impl.Event{}
	for range size {
		list = append(list, impl.Event{Kind: 20 + d.below(2), Gor: d.below(gors), Lo: d.below(100), Size: 1 + d.below(8), Fn: d.below(fns), Site: d.below(1000)})
	}
	return list
}

// mixed are accesses, and among them all others, and such as are not EventOk.
func mixed(d *dice, size int, gors int64, fns int64) []impl.Event {
	list := accesses(d, size, gors, fns)
	wrong := wrongEvents()
	for at := range list {
		switch d.below(6) {
		case 0:
			list[at] = d.event(gors, 3)
		case 1:
			list[at] = wrong[d.below(int64(len(wrong)))]
		case 2:
			spoilt := slices.Repeat(list[at:at+1], 5)
			spoilt[0].Size = 0
			spoilt[1].Size = 9
			spoilt[2].Obj = 1
			spoilt[3].With = 1
			spoilt[4].Site = 1000
			list[at] = spoilt[d.below(5)]
		}
	}
	return list
}

func isPlainAccess(e impl.Event) bool {
	return impl.EventOk(e) && (e.Kind == 20 || e.Kind == 21)
}

func visitOf(n int, e impl.Event) visit { return visit{int64(n), e.Gor, e.Fn} }

// plainLooks goes by the plain sampler.
func plainLooks(c impl.Config, draws []int64, list []impl.Event) []bool {
	looked := make([]bool, len(list))
	p := plainNew(c, draws)
	for n, e := range list {
		looked[n] = isPlainAccess(e) && p.look(visitOf(n, e))
	}
	return looked
}

// byLooks calls Look for each access, in order.
func byLooks(c impl.Config, draws []int64, list []impl.Event) []bool {
	looked := make([]bool, len(list))
	s := impl.NewSampler()
	for n, e := range list {
		if isPlainAccess(e) {
			s, looked[n] = impl.Look(c, draws, s, int64(n), e.Gor, e.Fn)
		}
	}
	return looked
}

// lookedIn asks twice, and fails where an answer is another one, or shares memory with the other one or with what was given.
func lookedIn(t *testing.T, what string, c impl.Config, draws []int64, list []impl.Event, want []bool) {
	t.Helper()
	drawn, given := roomy(draws), padded(list, spareEvent)
	first, second := impl.LookedIn(c, drawn, given), impl.LookedIn(c, drawn, given)
	if !slices.Equal(first, want) || !slices.Equal(second, want) {
		t.Fatalf("%s: %d events by %+v and %v: %v and %v, not %v", what, len(list), c, draws, first, second, want)
	}
	for _, mark := range []bool{true, false} {
		spoilWith(second, mark)
		if !slices.Equal(first, want) {
			t.Fatalf("%s: a write to a second answer makes %v of %v", what, first, want)
		}
	}
	spoilWith(first, true)
	staysPadded(t, what, given, list, spareEvent)
	stays(t, what, drawn, draws)
}

func lookedAsPlain(t *testing.T, what string, c impl.Config, draws []int64, list []impl.Event) []bool {
	t.Helper()
	want := plainLooks(c, draws, list)
	lookedIn(t, what, c, draws, list, want)
	if got := byLooks(c, draws, list); !slices.Equal(got, want) {
		t.Fatalf("%s: by Look %v, not %v", what, got, want)
	}
	return want
}

// All kinds of events, right and wrong, of every size up to MaxEvents.
func TestLookedInByTheWords(t *testing.T) {
	for seed := range dice(150) {
		d := 3300 + seed
		c := d.thrownConfig()
		size := int(d.below(301))
		draws := d.draws(1 + d.below(1+int64(size)/c.Span))
		gors, fns := 1+d.below(5), 1+d.below(4)
		lookedAsPlain(t, fmt.Sprint("mixed ", seed), c, draws, mixed(&d, size, gors, fns))
		lookedAsPlain(t, fmt.Sprint("accesses ", seed), c, draws, accesses(&d, size, gors, fns))
		lookedAsPlain(t, fmt.Sprint("legal ", seed), c, draws, racyTrace(&d, size, gors, 5))
	}
}

// Of the document's words by hand: what is no access, or not EventOk, is no step of a burst either.
func TestLookedInWrittenOut(t *testing.T) {
	r := impl.Event{Kind: impl.EvRead, Gor: 1, Lo: 9, Size: 2, Fn: 4, Site: 7}
	w := impl.Event{Kind: impl.EvWrite, Gor: 1, Lo: 3, Size: 1, Fn: 4, Site: 8}
	load := impl.Event{Kind: impl.EvLoad, Gor: 1, Obj: 4}
	wrong := r
	wrong.Size = 9
	far := r
	far.Fn = 1000
	other := r
	other.Fn = 5
	third := r
	third.Gor = 15
	c := watchful(500000, 6, 1, 1, 2)
	for _, one := range []struct {
		what  string
		draws []int64
		list  []impl.Event
		want  []bool
	}{
		{"none", []int64{0}, nil, nil},
		{"one", []int64{0}, events(r), []bool{true}},
		{"one, no draw", nil, events(r), []bool{false}},
		{"one, off", []int64{500000}, events(r), []bool{false}},
		{"read and written, one burst", []int64{0}, events(r, w, r, w), []bool{true, false, true, false}},
		{"what is no access between", []int64{0}, events(load, r, load, load, w, load), []bool{false, true, false, false, false, false}},
		{"what is not EventOk between", []int64{0}, events(wrong, r, wrong, far, w, impl.Event{}), []bool{false, true, false, false, false, false}},
		{"two functions", []int64{0}, events(r, other, r, other), []bool{true, true, false, false}},
		{"two goroutines", []int64{0}, events(r, third, third, r), []bool{true, true, false, false}},
		{"the quota", []int64{0}, events(r, other, third, third, r, other), []bool{true, true, false, false, false, false}},
		{"the quota of the next period", []int64{0, 1}, events(r, other, third, load, load, load, third, r, third, other), []bool{true, true, false, false, false, false, false, false, true, false}},
		{"a period that is off between", []int64{0, 700000, 0}, events(r, load, load, load, load, load, r, r, r, load, load, load, r, r), []bool{true, false, false, false, false, false, false, false, false, false, false, false, false, true}},
		{"behind the last draw", []int64{0}, events(r, load, load, load, load, load, other, third), []bool{true, false, false, false, false, false, false, false}},
	} {
		lookedIn(t, one.what, c, one.draws, one.list, one.want)
		lookedAsPlain(t, one.what, c, one.draws, one.list)
	}
}

// The scene has no say: all of these are refused by it, and all are looked at.
func TestLookedInOfWhatCannotBeDone(t *testing.T) {
	c := watchful(topRate, 300, 300, 1, 300)
	list := events(access(impl.EvWrite, 3, 5, 1), access(impl.EvRead, 15, 5, 1), impl.Event{Kind: impl.EvUnlock, Gor: 9}, access(impl.EvRead, 0, 5, 1), access(impl.EvWrite, 7, 65535, 8))
	if impl.LegalLen(list) != 0 {
		t.Fatal("legal")
	}
	lookedIn(t, "not legal", c, []int64{0}, list, []bool{true, true, false, true, true})
	for _, e := range append(rightEvents(), wrongEvents()...) {
		lookedIn(t, "alone", c, []int64{0}, events(e), []bool{isPlainAccess(e)})
		lookedIn(t, "not on", c, nil, events(e), []bool{false})
	}
}

// Nothing, where c or draws are not right, or there are more than MaxEvents.
func TestLookedInOfWrongArguments(t *testing.T) {
	d := dice(115)
	lists := [][]impl.Event{nil, accesses(&d, 1, 1, 1), mixed(&d, 300, 3, 3)}
	for _, c := range wrongConfigs() {
		for _, list := range lists {
			lookedIn(t, "a wrong Config", c, []int64{0, 0}, list, nil)
		}
	}
	for _, draws := range drawsThatAre(false) {
		for _, list := range lists {
			lookedIn(t, "wrong draws", allOn(), draws, list, nil)
		}
	}
	for _, size := range []int{301, 302, 556, 600, 1<<16 + 1, 1<<16 + 300} {
		lookedIn(t, "too many", allOn(), manyOf(300, 0), make([]impl.Event, size), nil)
		lookedIn(t, "too many accesses", allOn(), manyOf(300, 0), accesses(&d, size, 3, 3), nil)
	}
}

// At MaxEvents accesses, each by an owner of its own, in rising, falling and mixed order, and all by one.
func TestLookedInAtMaxEvents(t *testing.T) {
	c := watchful(topRate, 1, 1, 1, 1)
	draws := manyOf(300, 0)
	own := func(k int64) impl.Event {
		return impl.Event{Kind: impl.EvRead, Gor: k % 16, Size: 1, Fn: 999 - k}
	}
	var falling, thrown []impl.Event
	for k := range int64(301) {
		falling = append(falling, own(k))
		thrown = append(thrown, own(k*11%301))
	}
	for _, list := range [][]impl.Event{falling, thrown, slices.Repeat(events(own(3)), 301)} {
		for _, size := range []int{298, 299, 300} {
			want := lookedAsPlain(t, fmt.Sprint(size), c, draws, list[:size])
			if list[0] != list[1] && slices.Contains(want, false) {
				t.Fatalf("%d owners: %v", size, want)
			}
			lookedAsPlain(t, fmt.Sprint(size), watchful(topRate, 100, 2, 3, 50), draws, list[:size])
		}
		lookedIn(t, "one more", c, draws, list, nil)
	}
}

// promiseOfQuotas counts what was looked at, period by period.
func promiseOfQuotas(t *testing.T, what string, c impl.Config, draws []int64, looked []bool) (most int64) {
	t.Helper()
	for first := int64(0); first < int64(len(looked)); first += c.Span {
		count := int64(0)
		for n := first; n < min(first+c.Span, int64(len(looked))); n++ {
			if looked[n] && !isOn(c, draws, n) {
				t.Fatalf("%s: %d is looked at, and not on, by %+v", what, n, c)
			}
			if looked[n] {
				count++
			}
		}
		if count > c.Quota {
			t.Fatalf("%s: %d are looked at from %d on, by %+v", what, count, first, c)
		}
		most = max(most, count)
	}
	return most
}

// Promise 11, of LookedIn and of Look called from 0 on.
func TestAtMostQuotaInEachPeriod(t *testing.T) {
	met := map[int64]int{}
	for seed := range dice(300) {
		d := 4400 + seed
		c := d.thrownConfig()
		c.Burst = 1 + d.below(20)
		draws := d.draws(1 + d.below(300))
		list := accesses(&d, 300, 1+d.below(6), 1+d.below(6))
		if seed%2 == 0 {
			list = mixed(&d, 300, 1+d.below(6), 1+d.below(6))
		}
		most := promiseOfQuotas(t, "LookedIn", c, draws, impl.LookedIn(c, draws, list))
		promiseOfQuotas(t, "Look", c, draws, byLooks(c, draws, list))
		if most == c.Quota {
			met[c.Quota]++
		}
	}
	for quota := range int64(6) {
		if met[quota] == 0 {
			t.Fatalf("a quota of %d was never used up", quota)
		}
	}
}

// Promise 11: where nothing else is in the way, just the first Quota of each period that is on are looked at.
func TestTheFirstQuotaOfEachPeriod(t *testing.T) {
	d := dice(117)
	for _, span := range []int64{1, 2, 3, 7, 10, 100, 299, 300, 301, 1000} {
		for _, quota := range []int64{0, 1, 2, 3, 9, 10, 11, 99, 299, 300, 301, 100000} {
			c := watchful(500000, span, 1000, 1, quota)
			draws := d.draws(300 / span)
			list := accesses(&d, 300, 4, 4)
			want := make([]bool, 300)
			for n := range want {
				want[n] = isOn(c, draws, int64(n)) && int64(n)-plainPeriod(c, int64(n))*span < quota
			}
			lookedIn(t, "the first ones", c, draws, list, want)
		}
	}
}

// A rate of 0 looks at nothing, and no draws do neither.
func TestNothingIsLookedAtWhereNothingIsOn(t *testing.T) {
	d := dice(118)
	list := accesses(&d, 300, 3, 3)
	none := make([]bool, 300)
	lookedIn(t, "a rate of 0", watchful(0, 3, 1000, 1, 100000), manyOf(300, 0), list, none)
	lookedIn(t, "no draws", watchful(topRate, 3, 1000, 1, 100000), nil, list, none)
	lookedIn(t, "great draws", watchful(999999, 3, 1000, 1, 100000), manyOf(300, 999999), list, none)
	lookedIn(t, "all on", watchful(topRate, 3, 1000, 1, 100000), manyOf(300, 999999), list, lookedAtAll(list))
}

// Several Samplers in turn, of several Configs: none is moved on by what is asked of another one, nor by what was written to an answer.
func TestSamplersKeepNothing(t *testing.T) {
	d := dice(119)
	var walks []*walk
	for range 6 {
		walks = append(walks, newWalk(d.thrownConfig(), d.draws(100)))
	}
	list := accesses(&d, 40, 2, 2)
	for range 900 {
		w := walks[d.below(6)]
		v := visit{d.below(300), d.below(3), d.below(3)}
		impl.Look(w.plain.c, w.plain.draws, impl.NewSampler(), 0, 0, 0)
		impl.Look(impl.Config{}, nil, w.s, v.n, v.gor, v.fn)
		spoilWith(impl.LookedIn(w.plain.c, w.plain.draws, list), true)
		w.step(t, "in turn", v)
	}
}

// What stands in the spare room is no draw, no Own and no event.
func TestLooksAndTheSpareRoom(t *testing.T) {
	c := watchful(topRate, 2, 1, 1, 5)
	for _, behind := range []int64{0, -1, topRate} {
		draws := padded([]int64{0, 0}, behind)
		for _, own := range []impl.Own{spoiltOwn, ownOf(c, 0, 0), {Gor: 3, Fn: 3, Burst: impl.Burst{Skip: 1, Gap: 1}}} {
			s := impl.Sampler{Owns: padded([]impl.Own{ownOf(c, 2, 2)}, own), Period: 1, Used: 2}
			got, looked := impl.Look(c, draws, s, 3, 3, 3)
			if want := samplerOf(1, 3, ownOf(c, 2, 2), impl.Own{Gor: 3, Fn: 3, Burst: impl.Burst{Skip: 1, Gap: 1}}); !looked || !sameSampler(got, want) {
				t.Fatalf("%+v and %v, not %+v", got, looked, want)
			}
			if got, looked = impl.Look(c, draws, s, 4, 3, 3); looked || !sameSampler(got, s) {
				t.Fatalf("behind the last draw: %+v and %v", got, looked)
			}
			staysPadded(t, "its Owns", s.Owns, []impl.Own{ownOf(c, 2, 2)}, own)
		}
		list := padded(events(access(impl.EvRead, 1, 2, 3), impl.Event{}), access(impl.EvWrite, 1, 2, 3))
		if got := impl.LookedIn(c, draws, list); !slices.Equal(got, []bool{true, false}) {
			t.Fatalf("%v", got)
		}
	}
}
