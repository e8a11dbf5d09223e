package tests

import (
	"math"
	"slices"
	"testing"

	"loop.example/g00720/impl"
)

type clockCase struct {
	clock []int64
	ok    bool
}

// clockCases holds ordinary clocks, those at each limit and those that pass it by one.
func clockCases() []clockCase {
	nought := manyOf(impl.MaxGors, 5)
	nought[impl.MaxGors-1] = 0
	late := manyOf(impl.MaxGors, 0)
	late[impl.MaxGors-1] = 1
	return []clockCase{
		{nil, true},
		{[]int64{}, true},
		{[]int64{1}, true},
		{[]int64{0, 3}, true},
		{[]int64{2, 0, 1}, true},
		{[]int64{impl.MaxTick}, true},
		{[]int64{impl.MaxTick - 1, impl.MaxTick}, true},
		{manyOf(impl.MaxGors-1, 7), true},
		{manyOf(impl.MaxGors, 7), true},
		{manyOf(impl.MaxGors, impl.MaxTick), true},
		{late, true},
		{[]int64{0}, false},
		{[]int64{0, 0}, false},
		{[]int64{3, 0}, false},
		{nought, false},
		{[]int64{-1}, false},
		{[]int64{-1, 4}, false},
		{[]int64{4, -1}, false},
		{[]int64{1, -1, 1}, false},
		{[]int64{impl.MaxTick + 1}, false},
		{[]int64{impl.MaxTick + 1, 1}, false},
		{[]int64{1, impl.MaxTick + 1, 1}, false},
		{[]int64{math.MinInt64}, false},
		{[]int64{math.MaxInt64}, false},
		{manyOf(impl.MaxGors+1, 7), false},
		{manyOf(impl.MaxGors+1, 0), false},
		{manyOf(1000, 1), false},
	}
}

// smallClocks holds every clock of at most three numbers up to 2.
func smallClocks() [][]int64 {
	var all [][]int64
	for x := int64(0); x < 27; x++ {
		all = append(all, trimmed([]int64{x / 9, x / 3 % 3, x % 3}))
	}
	return all
}

func trimmed(list []int64) []int64 {
	for len(list) > 0 && list[len(list)-1] == 0 {
		list = list[:len(list)-1]
	}
	return list
}

func rightClocks() [][]int64 {
	all := smallClocks()
	for _, c := range clockCases() {
		if c.ok {
			all = append(all, c.clock)
		}
	}
	return all
}

func wrongClocks() [][]int64 {
	var all [][]int64
	for _, c := range clockCases() {
		if !c.ok {
			all = append(all, c.clock)
		}
	}
	return all
}

// placeOf is the chapter's 'what is not in it is 0', told apart from the program.
func placeOf(c []int64, g int) int64 {
	if g < len(c) {
		return c[g]
	}
	return 0
}

func underByPlaces(a []int64, b []int64) bool {
	for g := 0; g < impl.MaxGors; g++ {
		if placeOf(a, g) > placeOf(b, g) {
			return false
		}
	}
	return true
}

func joinByPlaces(a []int64, b []int64) []int64 {
	all := make([]int64, impl.MaxGors)
	for g := range all {
		all[g] = max(placeOf(a, g), placeOf(b, g))
	}
	return trimmed(all)
}

func TestLimitsOfClocks(t *testing.T) {
	if impl.MaxGors != 16 || impl.MaxTick != 281474976710655 {
		t.Fatal(impl.MaxGors, impl.MaxTick)
	}
}

func TestClockOk(t *testing.T) {
	for _, c := range clockCases() {
		if impl.ClockOk(c.clock) != c.ok {
			t.Errorf("ClockOk(%v) is not %v", c.clock, c.ok)
		}
	}
}

func TestTickOfRightClocks(t *testing.T) {
	for _, c := range rightClocks() {
		for g := 0; g < impl.MaxGors; g++ {
			if got := impl.TickOf(c, int64(g)); got != placeOf(c, g) {
				t.Errorf("TickOf(%v, %d) is %d", c, g, got)
			}
		}
		for _, g := range []int64{math.MinInt64, -1, int64(len(c)), impl.MaxGors, impl.MaxGors + 1, 1 << 32, math.MaxInt64} {
			if got := impl.TickOf(c, g); got != 0 {
				t.Errorf("TickOf(%v, %d) is %d", c, g, got)
			}
		}
	}
}

func TestTickOfLooksAtTheClockOnly(t *testing.T) {
	if got := impl.TickOf([]int64{4, 9, 8}[:1], 1); got != 0 {
		t.Errorf("what lies behind a clock was read: %d", got)
	}
}

func TestTickOfWrongClocks(t *testing.T) {
	for _, c := range wrongClocks() {
		for g := int64(-1); g <= int64(len(c)); g++ {
			if got := impl.TickOf(c, g); got != 0 {
				t.Errorf("TickOf(%v, %d) is %d", c, g, got)
			}
		}
	}
}

func TestJoinedClocksExamples(t *testing.T) {
	for _, c := range [][3][]int64{
		{{}, {}, {}},
		{nil, {0, 3}, {0, 3}},
		{{0, 3}, nil, {0, 3}},
		{{2, 0, 1}, {1, 4}, {2, 4, 1}},
		{{1, 4}, {2, 0, 1}, {2, 4, 1}},
		{{0, 0, 1}, {5}, {5, 0, 1}},
		{{3, 3}, {3, 3}, {3, 3}},
		{{impl.MaxTick}, {1, impl.MaxTick}, {impl.MaxTick, impl.MaxTick}},
		{manyOf(impl.MaxGors, 7), {9}, append([]int64{9}, manyOf(impl.MaxGors-1, 7)...)},
	} {
		if got := impl.JoinedClocks(c[0], c[1]); !slices.Equal(got, c[2]) {
			t.Errorf("JoinedClocks(%v, %v) is %v, not %v", c[0], c[1], got, c[2])
		}
	}
}

func TestJoinedClocksByPlaces(t *testing.T) {
	for _, a := range rightClocks() {
		for _, b := range rightClocks() {
			got := impl.JoinedClocks(a, b)
			if !slices.Equal(got, joinByPlaces(a, b)) || !impl.ClockOk(got) {
				t.Errorf("JoinedClocks(%v, %v) is %v", a, b, got)
			}
		}
	}
}

// Promise 1: both are under the joined clock, and it is under each clock that both are under.
func TestJoinedClockIsTheLeast(t *testing.T) {
	clocks := rightClocks()
	for _, a := range clocks {
		for _, b := range clocks {
			j := impl.JoinedClocks(a, b)
			if !impl.Under(a, j) || !impl.Under(b, j) {
				t.Fatalf("%v and %v are not both under %v", a, b, j)
			}
			for _, c := range clocks {
				if both := impl.Under(a, c) && impl.Under(b, c); both != impl.Under(j, c) {
					t.Fatalf("%v and %v, joined %v, against %v", a, b, j, c)
				}
			}
		}
	}
}

func TestJoinedClocksWrong(t *testing.T) {
	for _, w := range wrongClocks() {
		for _, r := range append(rightClocks(), wrongClocks()...) {
			if got := impl.JoinedClocks(w, r); len(got) != 0 {
				t.Errorf("JoinedClocks(%v, %v) is %v", w, r, got)
			}
			if got := impl.JoinedClocks(r, w); len(got) != 0 {
				t.Errorf("JoinedClocks(%v, %v) is %v", r, w, got)
			}
		}
	}
}

func TestUnderExamples(t *testing.T) {
	for _, c := range []struct {
		a, b []int64
		want bool
	}{
		{nil, nil, true},
		{nil, []int64{1}, true},
		{[]int64{1}, nil, false},
		{[]int64{1, 4}, []int64{2, 4, 1}, true},
		{[]int64{2, 4, 1}, []int64{2, 5}, false},
		{[]int64{2, 4, 1}, []int64{2, 3, 1}, false},
		{[]int64{0, 0, 1}, []int64{9, 9}, false},
		{[]int64{impl.MaxTick}, []int64{impl.MaxTick}, true},
		{[]int64{impl.MaxTick}, []int64{impl.MaxTick - 1}, false},
		{manyOf(impl.MaxGors, 7), manyOf(impl.MaxGors, 7), true},
		{manyOf(impl.MaxGors, 7), manyOf(impl.MaxGors-1, 7), false},
	} {
		if impl.Under(c.a, c.b) != c.want {
			t.Errorf("Under(%v, %v) is not %v", c.a, c.b, c.want)
		}
	}
}

func TestUnderByPlaces(t *testing.T) {
	for _, a := range rightClocks() {
		for _, b := range rightClocks() {
			if impl.Under(a, b) != underByPlaces(a, b) {
				t.Errorf("Under(%v, %v) is %v", a, b, impl.Under(a, b))
			}
		}
	}
}

func TestUnderWrong(t *testing.T) {
	for _, w := range wrongClocks() {
		for _, r := range append(rightClocks(), wrongClocks()...) {
			if impl.Under(w, r) || impl.Under(r, w) {
				t.Errorf("%v is told to be under, or above, %v", w, r)
			}
		}
	}
}

func TestTickedExamples(t *testing.T) {
	last := append(append([]int64{1}, manyOf(impl.MaxGors-2, 0)...), 1)
	for _, c := range []struct {
		clock []int64
		g     int64
		want  []int64
		ok    bool
	}{
		{nil, 0, []int64{1}, true},
		{nil, 2, []int64{0, 0, 1}, true},
		{[]int64{1}, 0, []int64{2}, true},
		{[]int64{1}, 1, []int64{1, 1}, true},
		{[]int64{1}, 3, []int64{1, 0, 0, 1}, true},
		{[]int64{0, 3}, 0, []int64{1, 3}, true},
		{[]int64{1}, impl.MaxGors - 1, last, true},
		{manyOf(impl.MaxGors, 7), impl.MaxGors - 1, append(manyOf(impl.MaxGors-1, 7), 8), true},
		{[]int64{impl.MaxTick - 1}, 0, []int64{impl.MaxTick}, true},
		{[]int64{impl.MaxTick}, 1, []int64{impl.MaxTick, 1}, true},
		{[]int64{impl.MaxTick}, 0, []int64{impl.MaxTick}, false},
		{[]int64{1, 0, impl.MaxTick}, 2, []int64{1, 0, impl.MaxTick}, false},
		{[]int64{1}, impl.MaxGors, []int64{1}, false},
		{[]int64{1}, impl.MaxGors + 1, []int64{1}, false},
		{[]int64{1, 2}, -1, []int64{1, 2}, false},
		{[]int64{1, 2}, math.MinInt64, []int64{1, 2}, false},
		{[]int64{1, 2}, math.MaxInt64, []int64{1, 2}, false},
		{[]int64{1, 2}, 1 << 32, []int64{1, 2}, false},
		{nil, impl.MaxGors, nil, false},
		{nil, -1, nil, false},
	} {
		got, ok := impl.Ticked(c.clock, c.g)
		if !slices.Equal(got, c.want) || ok != c.ok {
			t.Errorf("Ticked(%v, %d) is %v, %v", c.clock, c.g, got, ok)
		}
	}
}

// A tick makes a right clock that is above the old one, by one at one place.
func TestTickedByPlaces(t *testing.T) {
	for _, c := range rightClocks() {
		for g := 0; g < impl.MaxGors; g++ {
			got, ok := impl.Ticked(c, int64(g))
			want := make([]int64, impl.MaxGors)
			copy(want, c)
			if placeOf(c, g) != impl.MaxTick {
				want[g]++
			}
			if ok != (placeOf(c, g) != impl.MaxTick) || !slices.Equal(got, trimmed(want)) || !impl.ClockOk(got) {
				t.Errorf("Ticked(%v, %d) is %v, %v", c, g, got, ok)
			}
		}
	}
}

func TestTickedWrong(t *testing.T) {
	for _, c := range wrongClocks() {
		for _, g := range oddNumbers() {
			if got, ok := impl.Ticked(c, g); ok || len(got) != 0 {
				t.Errorf("Ticked(%v, %d) is %v, %v", c, g, got, ok)
			}
		}
	}
}

func TestPackEpochExamples(t *testing.T) {
	for _, c := range []struct {
		g, n int64
		want uint64
		ok   bool
	}{
		{0, 0, 0, true},
		{0, 1, 1, true},
		{1, 0, 1 << 48, true},
		{2, 5, 2<<48 | 5, true},
		{0, impl.MaxTick, 1<<48 - 1, true},
		{impl.MaxGors - 1, 0, 15 << 48, true},
		{impl.MaxGors - 1, impl.MaxTick, 1<<52 - 1, true},
		{impl.MaxGors, 0, 0, false},
		{impl.MaxGors, 5, 0, false},
		{-1, 5, 0, false},
		{2, -1, 0, false},
		{2, impl.MaxTick + 1, 0, false},
		{0, impl.MaxTick + 1, 0, false},
		{1 << 16, 1, 0, false},
		{math.MaxInt64, 1, 0, false},
		{math.MinInt64, 1, 0, false},
		{1, math.MaxInt64, 0, false},
		{1, math.MinInt64, 0, false},
	} {
		if got, ok := impl.PackEpoch(c.g, c.n); got != c.want || ok != c.ok {
			t.Errorf("PackEpoch(%d, %d) is %d, %v", c.g, c.n, got, ok)
		}
	}
}

func TestUnpackEpochExamples(t *testing.T) {
	for _, c := range []struct {
		x    uint64
		g, n int64
		ok   bool
	}{
		{0, 0, 0, true},
		{5, 0, 5, true},
		{2<<48 | 5, 2, 5, true},
		{1<<48 - 1, 0, impl.MaxTick, true},
		{1 << 48, 1, 0, true},
		{15 << 48, 15, 0, true},
		{1<<52 - 1, 15, impl.MaxTick, true},
		{1 << 52, 0, 0, false},
		{16<<48 | 5, 0, 0, false},
		{1 << 63, 0, 0, false},
		{1<<63 | 5, 0, 0, false},
		{1<<63 | 1<<48 | 5, 0, 0, false},
		{math.MaxUint64, 0, 0, false},
	} {
		if g, n, ok := impl.UnpackEpoch(c.x); g != c.g || n != c.n || ok != c.ok {
			t.Errorf("UnpackEpoch(%d) is %d, %d, %v", c.x, g, n, ok)
		}
	}
}

func TestEpochsThereAndBack(t *testing.T) {
	for _, g := range oddNumbers() {
		for _, n := range oddNumbers() {
			x, ok := impl.PackEpoch(g, n)
			right := g >= 0 && g < impl.MaxGors && n >= 0 && n <= impl.MaxTick
			if ok != right {
				t.Errorf("PackEpoch(%d, %d) tells %v", g, n, ok)
			}
			if !ok {
				continue
			}
			if g2, n2, back := impl.UnpackEpoch(x); g2 != g || n2 != n || !back {
				t.Errorf("PackEpoch(%d, %d) comes back as %d, %d, %v", g, n, g2, n2, back)
			}
		}
	}
	for bit := 0; bit < 64; bit++ {
		x := uint64(1) << bit
		g, n, ok := impl.UnpackEpoch(x)
		y, made := impl.PackEpoch(g, n)
		if ok != (bit < 52) || !made || ok && y != x {
			t.Errorf("bit %d: %d, %d, %v; %d", bit, g, n, ok, y)
		}
	}
}

// Promise 22: arguments and the room behind them stay, and an answer that is written to changes no argument.
func TestClockAnswersAreNewMemory(t *testing.T) {
	all := append(rightClocks(), wrongClocks()...)
	for _, was := range all {
		c := roomy(was)
		impl.ClockOk(c)
		stays(t, "ClockOk", c, was)
		for _, g := range oddNumbers() {
			impl.TickOf(c, g)
			stays(t, "TickOf", c, was)
			got, _ := impl.Ticked(c, g)
			stays(t, "Ticked", c, was)
			spoil(got)
			stays(t, "Ticked, written to", c, was)
		}
		for _, other := range all {
			d := roomy(other)
			impl.Under(c, d)
			stays(t, "Under", c, was)
			stays(t, "Under", d, other)
			got := impl.JoinedClocks(c, d)
			stays(t, "JoinedClocks", c, was)
			stays(t, "JoinedClocks", d, other)
			spoil(got)
			stays(t, "JoinedClocks, written to", c, was)
			stays(t, "JoinedClocks, written to", d, other)
		}
	}
}

// Two answers to one call must not share memory either, or the first would change with the second.
func TestClockAnswersAreApart(t *testing.T) {
	first := impl.JoinedClocks([]int64{1, 2}, []int64{2})
	spoil(impl.JoinedClocks([]int64{1, 2}, []int64{2}))
	if !slices.Equal(first, []int64{2, 2}) {
		t.Error(first)
	}
	once, _ := impl.Ticked([]int64{1, 2}, 0)
	again, _ := impl.Ticked([]int64{1, 2}, 0)
	spoil(again)
	if !slices.Equal(once, []int64{2, 2}) {
		t.Error(once)
	}
}
