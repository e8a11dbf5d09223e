package impl

const MaxGors = 16
const MaxTick = 281474976710655

// MaxTick is the greatest number of this many bits, so that a tick never reaches into the goroutine's bits.
const tickBits = 48

// An epoch is what is known of one goroutine alone; in one word it is held and compared at no more cost than a number.
type epoch uint64

func (e epoch) gor() int64 { return int64(e >> tickBits) }

func (e epoch) tick() int64 { return int64(e & MaxTick) }

// The lowest bits hold every tick there is, so the goroutine alone can be wrong.
func (e epoch) ok() bool { return gorInRange(e.gor()) }

func epochOf(g int64, n int64) epoch { return epoch(g)<<tickBits | epoch(n) }

func gorInRange(g int64) bool { return 0 <= g && g < MaxGors }

func tickInRange(n int64) bool { return 0 <= n && n <= MaxTick }

func ClockOk(c []int64) bool {
	if len(c) > MaxGors {
		return false
	}
	for _, n := range c {
		if !tickInRange(n) {
			return false
		}
	}
	return len(c) == 0 || c[len(c)-1] != 0
}

func TickOf(c []int64, g int64) int64 {
	if !ClockOk(c) || g < 0 || g >= int64(len(c)) {
		return 0
	}
	return c[g]
}

func JoinedClocks(a []int64, b []int64) []int64 {
	if !ClockOk(a) || !ClockOk(b) {
		return []int64{}
	}
	return joinOf(a, b)
}

// The last number of the longest clock is not 0 and only grows, so right clocks join to a right one: no noughts are to be cut off.
func joinOf(clocks ...[]int64) []int64 {
	all := []int64{}
	for _, c := range clocks {
		for g, n := range c {
			if g == len(all) {
				all = append(all, n)
			} else {
				all[g] = max(all[g], n)
			}
		}
	}
	return all
}

// withAt answers a clock of its own, with n, which is not 0, in that place.
func withAt(c []int64, g int64, n int64) []int64 {
	next := joinOf(c)
	for int64(len(next)) <= g {
		next = append(next, 0)
	}
	next[g] = n
	return next
}

func Under(a []int64, b []int64) bool {
	if !ClockOk(a) || !ClockOk(b) {
		return false
	}
	for g, n := range a {
		if n > TickOf(b, int64(g)) {
			return false
		}
	}
	return true
}

func Ticked(c []int64, g int64) ([]int64, bool) {
	if !ClockOk(c) {
		return []int64{}, false
	}
	if !gorInRange(g) || TickOf(c, g) == MaxTick {
		return joinOf(c), false
	}
	return withAt(c, g, TickOf(c, g)+1), true
}

func PackEpoch(g int64, n int64) (uint64, bool) {
	if !gorInRange(g) || !tickInRange(n) {
		return 0, false
	}
	return uint64(epochOf(g, n)), true
}

func UnpackEpoch(x uint64) (int64, int64, bool) {
	e := epoch(x)
	if !e.ok() {
		return 0, 0, false
	}
	return e.gor(), e.tick(), true
}
