package tests

import (
	"fmt"
	"math"
	"slices"
	"testing"

	"loop.example/g00720/impl"
)

// topRate is MaxRate, written out apart from the program's.
const topRate = 1000000

// A setting is one number of a Config, and what it may be.
type setting struct {
	name        string
	least, most int64
	at          func(c *impl.Config) *int64
}

// settings is the document's list of them.
func settings() []setting {
	return []setting{
		{"Rate", 0, 1000000, func(c *impl.Config) *int64 { return &c.Rate }},
		{"Span", 1, 1000, func(c *impl.Config) *int64 { return &c.Span }},
		{"Burst", 1, 1000, func(c *impl.Config) *int64 { return &c.Burst }},
		{"Most", 1, 100000, func(c *impl.Config) *int64 { return &c.Most }},
		{"Quota", 0, 100000, func(c *impl.Config) *int64 { return &c.Quota }},
		{"Cells", 1, 512, func(c *impl.Config) *int64 { return &c.Cells }},
		{"Rows", 1, 64, func(c *impl.Config) *int64 { return &c.Rows }},
	}
}

// with is the Config with another number in one place.
func (s setting) with(c impl.Config, n int64) impl.Config {
	*s.at(&c) = n
	return c
}

func (s setting) allows(n int64) bool { return s.least <= n && n <= s.most }

// wrongs are numbers that the setting may not be, the two right beside its limits first.
func (s setting) wrongs() []int64 {
	all := []int64{s.least - 1, s.most + 1}
	for _, n := range append(oddNumbers(), s.least-1<<32, s.most+1<<32, s.least+1<<32, -s.most) {
		if !s.allows(n) {
			all = append(all, n)
		}
	}
	return all
}

func leastConfig() impl.Config {
	return impl.Config{Rate: 0, Span: 1, Burst: 1, Most: 1, Quota: 0, Cells: 1, Rows: 1}
}

func greatestConfig() impl.Config {
	return impl.Config{Rate: 1000000, Span: 1000, Burst: 1000, Most: 100000, Quota: 100000, Cells: 512, Rows: 64}
}

// ordinaryConfig looks at each other period, if draws are spread evenly.
func ordinaryConfig() impl.Config {
	return impl.Config{Rate: 500000, Span: 10, Burst: 20, Most: 30, Quota: 40, Cells: 50, Rows: 60}
}

func rightConfigs() []impl.Config {
	return []impl.Config{leastConfig(), greatestConfig(), ordinaryConfig()}
}

// periodic is a right Config of that Rate and Span.
func periodic(rate int64, span int64) impl.Config {
	c := ordinaryConfig()
	c.Rate, c.Span = rate, span
	return c
}

// wrongConfigs have each one wrong number, but the first ones, which have more.
func wrongConfigs() []impl.Config {
	all := []impl.Config{{}, {Rate: topRate}, {Rate: -1, Span: -1, Burst: -1, Most: -1, Quota: -1, Cells: -1, Rows: -1}}
	for _, s := range settings() {
		for _, c := range rightConfigs() {
			for _, n := range s.wrongs() {
				all = append(all, s.with(c, n))
			}
		}
		all = append(all, s.with(periodic(topRate, 1), s.most+1), s.with(periodic(topRate, 4), s.least-1))
	}
	return all
}

// A drawsCase is a list, and whether it is of draws.
type drawsCase struct {
	what  string
	draws []int64
	ok    bool
}

func drawsCases() []drawsCase {
	all := []drawsCase{
		{"nil", nil, true},
		{"empty", []int64{}, true},
		{"emptied", []int64{-1, topRate}[:0], true},
		{"one of 0", []int64{0}, true},
		{"one of MaxRate less 1", []int64{999999}, true},
		{"one of MaxRate", []int64{1000000}, false},
		{"one of more than MaxRate", []int64{1000001}, false},
		{"one of -1", []int64{-1}, false},
		{"ordinary ones", []int64{499999, 500000, 0, 999999, 1}, true},
		{"one less than MaxEvents", manyOf(299, 999999), true},
		{"MaxEvents", manyOf(300, 0), true},
		{"MaxEvents of the greatest", manyOf(300, 999999), true},
		{"one more than MaxEvents", manyOf(301, 0), false},
		{"one more than MaxEvents of the greatest", manyOf(301, 999999), false},
		{"two times MaxEvents", manyOf(600, 0), false},
		{"many", manyOf(1<<16+1, 0), false},
		{"many and MaxEvents", manyOf(1<<16+300, 0), false},
	}
	for _, wrong := range []int64{-1, topRate, topRate + 1, -1 << 32, 1 << 32, 1<<32 + 5, math.MinInt64, math.MaxInt64} {
		for _, size := range []int{1, 2, 7, 300} {
			for _, at := range []int{0, size / 2, size - 1} {
				draws := manyOf(size, 5)
				draws[at] = wrong
				all = append(all, drawsCase{fmt.Sprint(wrong, " at ", at, " of ", size), draws, false})
			}
		}
	}
	return all
}

func drawsThatAre(ok bool) [][]int64 {
	var all [][]int64
	for _, c := range drawsCases() {
		if c.ok == ok {
			all = append(all, c.draws)
		}
	}
	return all
}

// drawOf goes from period to period till it comes to the one of n, and tells its draw and its first event; false where there is no draw for it.
func drawOf(c impl.Config, draws []int64, n int64) (draw int64, first int64, ok bool) {
	for _, d := range draws {
		if first <= n && n <= first+c.Span-1 {
			return d, first, true
		}
		first += c.Span
	}
	return 0, 0, false
}

func isOn(c impl.Config, draws []int64, n int64) bool {
	draw, _, ok := drawOf(c, draws, n)
	return ok && draw < c.Rate
}

func isOpening(c impl.Config, draws []int64, n int64) bool {
	_, first, _ := drawOf(c, draws, n)
	return isOn(c, draws, n) && n == first
}

func onAt(t *testing.T, c impl.Config, draws []int64, n int64, want bool) {
	t.Helper()
	if got := impl.OnAt(c, draws, n); got != want {
		t.Fatalf("%d is on by %+v and %d draws %v: %v", n, c, len(draws), draws, got)
	}
}

func opensAt(t *testing.T, c impl.Config, draws []int64, n int64, want bool) {
	t.Helper()
	if got := impl.OpensAt(c, draws, n); got != want {
		t.Fatalf("%d opens a period by %+v and %d draws %v: %v", n, c, len(draws), draws, got)
	}
}

func openedIn(t *testing.T, c impl.Config, draws []int64, n int64, want int64) {
	t.Helper()
	if got := impl.OpenedIn(c, draws, n); got != want {
		t.Fatalf("below %d there open %d periods, not %d, by %+v and %d draws %v", n, got, want, c, len(draws), draws)
	}
}

// nothingOn fails where anything is on or opens, at any of these numbers, or -1 is not answered of how many open.
func nothingOn(t *testing.T, c impl.Config, draws []int64, places []int64) {
	t.Helper()
	for _, n := range places {
		onAt(t, c, draws, n, false)
		opensAt(t, c, draws, n, false)
		openedIn(t, c, draws, n, -1)
	}
}

func (d *dice) draws(size int64) []int64 {
	draws := make([]int64, size)
	for i := range draws {
		draws[i] = d.below(topRate)
	}
	return draws
}

// spansBeside are the least, the greatest and ordinary ones, and those at and beside MaxEvents.
func spansBeside() []int64 {
	return []int64{1, 2, 3, 4, 7, 10, 16, 64, 99, 299, 300, 301, 512, 999, 1000}
}

func TestLimitsOfConfigs(t *testing.T) {
	if impl.MaxRate != topRate || impl.MaxCells != 512 || impl.MaxRows != 64 {
		t.Fatal(impl.MaxRate, impl.MaxCells, impl.MaxRows)
	}
}

func TestConfigOkAtRightConfigs(t *testing.T) {
	for _, c := range rightConfigs() {
		if !impl.ConfigOk(c) {
			t.Errorf("%+v is not right", c)
		}
	}
	if !impl.ConfigOk(impl.Config{Rate: 1000000, Span: 10, Burst: 100, Most: 100, Quota: 100, Cells: 64, Rows: 8}) {
		t.Error("the bench's Config is not right")
	}
}

// Each number at its limits, beside them and far off, also at the limits of the other ones, all others right.
func TestConfigOkAtTheLimitsOfEachNumber(t *testing.T) {
	tries := oddNumbers()
	for _, s := range settings() {
		for beside := int64(-1); beside <= 1; beside++ {
			tries = append(tries, s.least+beside, s.most+beside, -s.most+beside, s.most/2+beside, s.least+beside+1<<32, s.most+beside-1<<32)
		}
	}
	for _, s := range settings() {
		for _, c := range rightConfigs() {
			for _, n := range tries {
				if impl.ConfigOk(s.with(c, n)) != s.allows(n) {
					t.Errorf("%s of %d in %+v: not %v", s.name, n, c, s.allows(n))
				}
			}
		}
	}
}

func TestConfigOkAtWrongConfigs(t *testing.T) {
	for _, c := range wrongConfigs() {
		if impl.ConfigOk(c) {
			t.Errorf("%+v is right", c)
		}
	}
}

// Two wrong numbers don't make up for one another.
func TestConfigOkAtTwoFaults(t *testing.T) {
	for _, s := range settings() {
		for _, o := range settings() {
			for _, n := range []int64{s.least - 1, s.most + 1, math.MinInt64, math.MaxInt64} {
				for _, m := range []int64{o.least - 1, o.most + 1, math.MinInt64, math.MaxInt64} {
					if c := s.with(o.with(ordinaryConfig(), m), n); impl.ConfigOk(c) {
						t.Errorf("%+v is right", c)
					}
				}
			}
		}
	}
}

func TestDrawsOk(t *testing.T) {
	for _, c := range drawsCases() {
		if impl.DrawsOk(c.draws) != c.ok {
			t.Errorf("%s: draws: not %v", c.what, c.ok)
		}
	}
}

func TestDrawsOkOfEveryCountAndPlace(t *testing.T) {
	d := dice(91)
	for size := range int64(320) {
		if impl.DrawsOk(d.draws(size)) != (size <= 300) {
			t.Errorf("%d draws", size)
		}
	}
	draws := d.draws(300)
	for at, was := range draws {
		for _, wrong := range []int64{-1, topRate} {
			draws[at] = wrong
			if impl.DrawsOk(draws) {
				t.Errorf("%d at %d", wrong, at)
			}
		}
		draws[at] = was
	}
}

// One period, its draw held against the Rate: the draw must be the lesser one.
func TestOnAtOneDraw(t *testing.T) {
	for _, c := range []struct {
		draw, rate int64
		want       bool
	}{
		{0, 0, false},
		{0, 1, true},
		{1, 0, false},
		{1, 1, false},
		{1, 2, true},
		{499999, 500000, true},
		{500000, 500000, false},
		{500001, 500000, false},
		{999998, 999999, true},
		{999999, 999999, false},
		{999999, 999998, false},
		{999999, 1000000, true},
		{999999, 0, false},
		{0, 1000000, true},
	} {
		for _, span := range spansBeside() {
			right := periodic(c.rate, span)
			onAt(t, right, []int64{c.draw}, 0, c.want)
			onAt(t, right, []int64{c.draw}, span-1, c.want)
			onAt(t, right, []int64{c.draw}, span, false)
			opensAt(t, right, []int64{c.draw}, 0, c.want)
		}
	}
}

// The words of the chapter, at every number from below 0 to behind the last draw's period.
func TestPeriodsByTheWords(t *testing.T) {
	d := dice(92)
	for walk := range int64(200) {
		c := periodic(d.below(topRate+1), 1+d.below(12))
		draws := d.draws(d.below(20))
		if walk%4 == 0 {
			for i := range draws {
				draws[i] = min(max(c.Rate-1+d.below(3), 0), topRate-1)
			}
		}
		end := c.Span * int64(len(draws))
		for n := int64(-30); n <= end+30; n++ {
			onAt(t, c, draws, n, isOn(c, draws, n))
			opensAt(t, c, draws, n, isOpening(c, draws, n))
		}
	}
}

// Three periods, the middle one off, each event by hand.
func TestPeriodsWrittenOut(t *testing.T) {
	c, draws := periodic(10, 3), []int64{9, 10, 0}
	on := []bool{true, true, true, false, false, false, true, true, true, false, false}
	opened := []int64{0, 1, 1, 1, 1, 1, 1, 2, 2, 2, 2}
	for n, want := range on {
		onAt(t, c, draws, int64(n), want)
		opensAt(t, c, draws, int64(n), n == 0 || n == 6)
		openedIn(t, c, draws, int64(n), opened[n])
	}
}

// The first and the last event of each period, and those right beside it, up to the last draw and behind it.
func TestPeriodsAtTheirEnds(t *testing.T) {
	d := dice(93)
	for _, span := range spansBeside() {
		for _, size := range []int64{1, 2, 5, 299, 300} {
			c, draws := periodic(500000, span), d.draws(size)
			for period, draw := range draws {
				first, on := int64(period)*span, draw < 500000
				onAt(t, c, draws, first, on)
				onAt(t, c, draws, first+span/2, on)
				onAt(t, c, draws, first+span-1, on)
				opensAt(t, c, draws, first, on)
				for inside := first + 1; inside < first+min(span, 4); inside++ {
					opensAt(t, c, draws, inside, false)
				}
				opensAt(t, c, draws, first+span-1, on && span == 1)
			}
			for _, n := range []int64{size * span, size*span + 1, (size + 1) * span, size*span + 1<<31, size*span + 1<<32} {
				onAt(t, c, draws, n, false)
				opensAt(t, c, draws, n, false)
			}
		}
	}
}

// farPlaces are numbers behind every period, among them such as come back to small ones when their highest bits are lost.
func farPlaces() []int64 {
	all := []int64{300000, 300001, 1<<48 - 1, math.MaxInt64, math.MaxInt64 - 1, math.MaxInt64 - 807, math.MaxInt64 / 2}
	for bit := 19; bit < 63; bit++ {
		all = append(all, 1<<bit, 1<<bit+1, 1<<bit+20)
	}
	return all
}

// Where there is no draw nothing is on, whatever the Rate, and however far off.
func TestNothingIsOnWithoutADraw(t *testing.T) {
	for _, span := range spansBeside() {
		c := periodic(topRate, span)
		for _, n := range append(farPlaces(), oddNumbers()...) {
			onAt(t, c, nil, n, false)
			opensAt(t, c, nil, n, false)
			onAt(t, c, []int64{}, n, false)
			onAt(t, c, []int64{0, 0}, n, 0 <= n && n < 2*span)
			opensAt(t, c, []int64{0, 0}, n, n == 0 || n == span)
		}
		for _, n := range farPlaces() {
			onAt(t, c, manyOf(300, 0), n, false)
			opensAt(t, c, manyOf(300, 0), n, false)
		}
		for n := range int64(301) {
			openedIn(t, c, nil, n, 0)
			openedIn(t, c, []int64{}, n, 0)
		}
	}
}

// Promise 9: a Rate of MaxRate is on wherever there is a draw and nowhere else, a Rate of 0 nowhere.
func TestRatesOfAllAndOfNothing(t *testing.T) {
	d := dice(94)
	lists := append(drawsThatAre(true), d.draws(1), d.draws(30), d.draws(300), manyOf(40, 999999), manyOf(40, 0))
	for _, draws := range lists {
		for _, span := range []int64{1, 3, 10, 1000} {
			all, none := periodic(topRate, span), periodic(0, span)
			end := span * int64(len(draws))
			for n := int64(-3); n <= min(end, 2000)+3; n++ {
				onAt(t, all, draws, n, 0 <= n && n < end)
				onAt(t, none, draws, n, false)
				opensAt(t, all, draws, n, 0 <= n && n < end && n%span == 0)
				opensAt(t, none, draws, n, false)
			}
			onAt(t, all, draws, end-1, end > 0)
			onAt(t, all, draws, end, false)
			for n := range int64(301) {
				openedIn(t, all, draws, n, min((n+span-1)/span, int64(len(draws))))
				openedIn(t, none, draws, n, 0)
			}
		}
	}
}

// A greater Rate is on wherever a smaller one is, and at more events where a draw lies between the two.
func TestAGreaterRateIsOnWhereASmallerOneIs(t *testing.T) {
	d := dice(95)
	for range 40 {
		span, draws := 1+d.below(9), d.draws(12)
		rates := append(d.draws(8), 0, 1, topRate-1, topRate, draws[3], draws[3]+1)
		slices.Sort(rates)
		for k := 1; k < len(rates); k++ {
			small, great := periodic(rates[k-1], span), periodic(rates[k], span)
			for n := int64(-2); n < 12*span+5; n++ {
				on := impl.OnAt(small, draws, n)
				if on && !impl.OnAt(great, draws, n) {
					t.Fatalf("%d of %v is on at %d, but not at %d", n, draws, rates[k-1], rates[k])
				}
				draw, _, ok := drawOf(small, draws, n)
				if impl.OnAt(great, draws, n) != (on || ok && rates[k-1] <= draw && draw < rates[k]) {
					t.Fatalf("%d of %v, from %d to %d", n, draws, rates[k-1], rates[k])
				}
			}
		}
	}
}

// Of a Config the Rate and the Span alone have a say, as long as the other numbers are right.
func TestOtherNumbersHaveNoSay(t *testing.T) {
	d := dice(96)
	draws := d.draws(15)
	was := periodic(500000, 4)
	for _, s := range settings()[2:] {
		for _, m := range []int64{s.least, s.least + 1, s.most - 1, s.most} {
			c := s.with(was, m)
			for n := int64(-5); n < 70; n++ {
				onAt(t, c, draws, n, isOn(was, draws, n))
				opensAt(t, c, draws, n, isOpening(was, draws, n))
			}
			openedIn(t, c, draws, 300, impl.OpenedIn(was, draws, 300))
		}
	}
}

// A period's own draw alone has a say, as long as the other ones are right.
func TestOtherDrawsHaveNoSay(t *testing.T) {
	d := dice(97)
	c, draws := periodic(500000, 5), d.draws(10)
	for at := range draws {
		for _, draw := range []int64{0, 499999, 500000, 999999} {
			other := slices.Clone(draws)
			other[at] = draw
			for n := range int64(60) {
				want := draw < 500000
				if n/5 != int64(at) {
					want = impl.OnAt(c, draws, n)
				}
				onAt(t, c, other, n, want)
				opensAt(t, c, other, n, want && n%5 == 0)
			}
		}
	}
}

func TestPeriodsOfWrongConfigs(t *testing.T) {
	places := append(oddNumbers(), 3, 4, 5, 10, 299, 300, 301)
	for _, c := range wrongConfigs() {
		nothingOn(t, c, manyOf(30, 0), places)
		nothingOn(t, c, nil, places)
		nothingOn(t, c, []int64{-1}, places)
	}
}

// A wrong draw is wrong for all of the others, also those ahead of it.
func TestPeriodsOfWrongDraws(t *testing.T) {
	places := append(oddNumbers(), 3, 4, 5, 10, 299, 300, 301)
	for _, draws := range drawsThatAre(false) {
		for _, c := range append(rightConfigs(), periodic(topRate, 1), periodic(topRate, 7), periodic(0, 1)) {
			nothingOn(t, c, draws, places)
		}
		nothingOn(t, impl.Config{}, draws, places)
	}
}

// Below 0 nothing is on, not even right below it, where a period rounded the other way would be the first one.
func TestPeriodsBelowNought(t *testing.T) {
	for _, span := range spansBeside() {
		c := periodic(topRate, span)
		for _, n := range []int64{-1, -2, -span, -span + 1, -span - 1, -2 * span, 1 - 1<<32, -1 << 32, math.MinInt64, math.MinInt64 + 1, math.MinInt64 + 808} {
			if n < 0 {
				onAt(t, c, manyOf(300, 0), n, false)
				opensAt(t, c, manyOf(300, 0), n, false)
				openedIn(t, c, manyOf(300, 0), n, -1)
			}
		}
		onAt(t, c, manyOf(300, 0), 0, true)
		opensAt(t, c, manyOf(300, 0), 0, true)
		openedIn(t, c, manyOf(300, 0), 0, 0)
	}
}

// OpenedIn is held against OpensAt at every number below n, with more draws than periods and with fewer.
func TestOpenedInIsHowOftenItOpens(t *testing.T) {
	d := dice(98)
	for _, span := range spansBeside() {
		for _, size := range []int64{0, 1, 2, 3, 10, 29, 30, 31, 299, 300} {
			c, draws := periodic(d.below(topRate+1), span), d.draws(size)
			opened := int64(0)
			for n := range int64(301) {
				openedIn(t, c, draws, n, opened)
				if isOpening(c, draws, n) != impl.OpensAt(c, draws, n) {
					t.Fatalf("%d by %+v and %v", n, c, draws)
				}
				if impl.OpensAt(c, draws, n) {
					opened++
				}
			}
		}
	}
}

func TestOpenedInAtItsLimits(t *testing.T) {
	draws := manyOf(300, 0)
	for _, c := range []struct{ span, all int64 }{{1, 300}, {2, 150}, {7, 43}, {10, 30}, {299, 2}, {300, 1}, {301, 1}, {1000, 1}} {
		right := periodic(topRate, c.span)
		openedIn(t, right, draws, -1, -1)
		openedIn(t, right, draws, 0, 0)
		openedIn(t, right, draws, 1, 1)
		openedIn(t, right, draws, 300, c.all)
		openedIn(t, right, draws, 301, -1)
		openedIn(t, right, draws[:1], 300, 1)
		openedIn(t, right, nil, 300, 0)
		openedIn(t, right, nil, 301, -1)
		openedIn(t, right, nil, -1, -1)
		for _, n := range oddNumbers() {
			want := int64(-1)
			if 0 <= n && n <= 300 {
				want = (n + c.span - 1) / c.span
			}
			openedIn(t, right, draws, n, want)
		}
	}
}

// Promise 22: draws, and the room behind them, stay as they were.
func TestPeriodsLeaveTheirDraws(t *testing.T) {
	lists := append(append(drawsThatAre(true), drawsThatAre(false)...), []int64{5, 1, 9, 3})
	for _, was := range lists {
		if len(was) > 1000 {
			continue
		}
		draws := roomy(was)
		impl.DrawsOk(draws)
		stays(t, "DrawsOk", draws, was)
		for _, c := range append(rightConfigs(), periodic(topRate, 3), impl.Config{}) {
			for _, n := range append(oddNumbers(), 3, 5, 299, 300, 301) {
				impl.OnAt(c, draws, n)
				impl.OpensAt(c, draws, n)
				impl.OpenedIn(c, draws, n)
			}
			stays(t, "periods", draws, was)
		}
	}
}

// What stands in the spare room is no draw.
func TestPeriodsAndTheSpareRoom(t *testing.T) {
	c := periodic(topRate, 2)
	for _, behind := range []int64{0, 5, -1, topRate, math.MaxInt64} {
		for size := range 6 {
			draws := padded(manyOf(size, 0), behind)
			if !impl.DrawsOk(draws) {
				t.Fatalf("%d draws, %d behind", size, behind)
			}
			for n := range int64(30) {
				onAt(t, c, draws, n, n < 2*int64(size))
				opensAt(t, c, draws, n, n < 2*int64(size) && n%2 == 0)
				openedIn(t, c, draws, n, min((n+1)/2, int64(size)))
			}
		}
		full := padded(manyOf(300, 0), behind)
		if !impl.DrawsOk(full) {
			t.Fatalf("MaxEvents draws, %d behind", behind)
		}
		openedIn(t, c, full, 300, 150)
	}
}

// What was asked ahead leaves nothing behind, not even where it is asked of the same draws, written to.
func TestPeriodsKeepNothing(t *testing.T) {
	d := dice(99)
	draws := d.draws(20)
	for range 50 {
		draws[d.below(20)] = d.below(topRate)
		c := periodic(d.below(topRate+1), 1+d.below(6))
		impl.OpenedIn(c, []int64{-1}, 5)
		impl.ConfigOk(impl.Config{})
		opened := int64(0)
		for n := range int64(130) {
			openedIn(t, c, draws, n, opened)
			onAt(t, c, draws, n, isOn(c, draws, n))
			opensAt(t, c, draws, n, isOpening(c, draws, n))
			if isOpening(c, draws, n) {
				opened++
			}
		}
	}
}
