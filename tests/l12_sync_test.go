package tests

import (
	"fmt"
	"math"
	"slices"
	"testing"

	"loop.example/g00720/impl"
)

const topTick = 281474976710655

// spareClock and spareThing stand behind what is given: a read past the end takes them for one of the list.
var spareClock = []int64{0, 1, 1, 1, 1, 1, 1, 1}

var spareThing = impl.Thing{Space: 7, Obj: 15, Slot: 7, Clock: []int64{1}, Ver: 1}

// touchAt is a Touch of a thing, with neither flag.
func touchAt(space int64, obj int64, slot int64) impl.Touch {
	return impl.Touch{Space: space, Obj: obj, Slot: slot}
}

func takesAt(space int64, obj int64, slot int64) impl.Touch {
	return impl.Touch{Space: space, Obj: obj, Slot: slot, Takes: true}
}

func givesAt(space int64, obj int64, slot int64) impl.Touch {
	return impl.Touch{Space: space, Obj: obj, Slot: slot, Gives: true}
}

func bothAt(space int64, obj int64, slot int64) impl.Touch {
	return impl.Touch{Space: space, Obj: obj, Slot: slot, Takes: true, Gives: true}
}

func sameThing(a impl.Thing, b impl.Thing) bool {
	return a.Space == b.Space && a.Obj == b.Obj && a.Slot == b.Slot && a.Ver == b.Ver &&
		slices.Equal(a.Clock, b.Clock) && slices.Equal(a.Got, b.Got) && slices.Equal(a.Sent, b.Sent)
}

func sameSync(a impl.Sync, b impl.Sync) bool {
	return slices.EqualFunc(a.Clocks, b.Clocks, slices.Equal[[]int64]) && slices.Equal(a.Vers, b.Vers) &&
		slices.EqualFunc(a.Things, b.Things, sameThing) &&
		a.Joins == b.Joins && a.Skips == b.Skips && a.Incs == b.Incs && a.Meets == b.Meets
}

// copyOf is the Sync in memory of its own.
func copyOf(s impl.Sync) impl.Sync {
	s.Vers = slices.Clone(s.Vers)
	s.Clocks = slices.Clone(s.Clocks)
	for g, clock := range s.Clocks {
		s.Clocks[g] = slices.Clone(clock)
	}
	s.Things = slices.Clone(s.Things)
	for i, thing := range s.Things {
		s.Things[i].Clock, s.Things[i].Got, s.Things[i].Sent = slices.Clone(thing.Clock), slices.Clone(thing.Got), slices.Clone(thing.Sent)
	}
	return s
}

// roomySync is the Sync in memory of its own, with spare room behind every list. All lists of numbers lie in one row, for there may be many.
func roomySync(s impl.Sync) impl.Sync {
	const spare = 3
	size := 0
	for _, list := range numbersOf(s) {
		size += len(list) + spare
	}
	row := manyOf(size, spareMark)
	roomy := func(list []int64) []int64 {
		own := row[: len(list) : len(list)+spare]
		row = row[len(list)+spare:]
		copy(own, list)
		return own
	}
	clocks, things := padded(s.Clocks, spareClock), padded(s.Things, spareThing)
	for g, clock := range clocks {
		clocks[g] = roomy(clock)
	}
	for i, thing := range things {
		things[i].Clock, things[i].Got, things[i].Sent = roomy(thing.Clock), roomy(thing.Got), roomy(thing.Sent)
	}
	s.Clocks, s.Vers, s.Things = clocks, roomy(s.Vers), things
	return s
}

// staysSync fails where a roomy Sync, or the room behind one of its lists, is not as roomySync made it.
func staysSync(t *testing.T, what string, got impl.Sync, was impl.Sync) {
	t.Helper()
	if !sameSync(got, was) {
		t.Fatalf("%s: the argument %+v became %+v", what, was, got)
	}
	for _, clock := range got.Clocks[len(got.Clocks):cap(got.Clocks)] {
		if !slices.Equal(clock, spareClock) {
			t.Fatalf("%s: %v was written behind the Clocks of %+v", what, clock, was)
		}
	}
	for _, thing := range got.Things[len(got.Things):cap(got.Things)] {
		if !sameThing(thing, spareThing) {
			t.Fatalf("%s: %+v was written behind the Things of %+v", what, thing, was)
		}
	}
	for _, list := range numbersOf(got) {
		for _, n := range list[len(list):cap(list)] {
			if n != spareMark {
				t.Fatalf("%s: %d was written behind the list %v of %+v", what, n, list, was)
			}
		}
	}
}

// numbersOf are all lists of numbers that a Sync has.
func numbersOf(s impl.Sync) [][]int64 {
	lists := append([][]int64{s.Vers}, s.Clocks...)
	for _, thing := range s.Things {
		lists = append(lists, thing.Clock, thing.Got, thing.Sent)
	}
	return lists
}

// numbersApart writes a mark of its own all over each list, and behind it, and fails where one of them has another one's mark then.
func numbersApart(t *testing.T, what string, lists ...[]int64) {
	t.Helper()
	for k, list := range lists {
		spoilWith(list, -1000-int64(k))
	}
	for k, list := range lists {
		for _, n := range list[:cap(list)] {
			if n != -1000-int64(k) {
				t.Fatalf("%s: list %d shares memory with list %d", what, k, -1000-n)
			}
		}
	}
}

// A syncStep is a call that goes on with a Sync, and what the plain one makes of it.
type syncStep struct {
	what  string
	call  func(s impl.Sync) (impl.Sync, bool)
	plain func(p *plainSync) bool
}

func took(g int64, k impl.Touch) syncStep {
	return syncStep{
		fmt.Sprintf("Took of %d and %+v", g, k),
		func(s impl.Sync) (impl.Sync, bool) { return impl.Took(s, g, k) },
		func(p *plainSync) bool { return p.took(g, k) },
	}
}

func gave(g int64, k impl.Touch) syncStep {
	return syncStep{
		fmt.Sprintf("Gave of %d and %+v", g, k),
		func(s impl.Sync) (impl.Sync, bool) { return impl.Gave(s, g, k) },
		func(p *plainSync) bool { return p.gave(g, k) },
	}
}

func bumped(g int64) syncStep {
	return syncStep{
		fmt.Sprint("Bumped of ", g),
		func(s impl.Sync) (impl.Sync, bool) { return impl.Bumped(s, g) },
		func(p *plainSync) bool { return p.bumped(g) },
	}
}

func forked(g int64) syncStep {
	return syncStep{
		fmt.Sprint("Forked of ", g),
		func(s impl.Sync) (impl.Sync, bool) { return impl.Forked(s, g) },
		func(p *plainSync) bool { return p.forked(g) },
	}
}

func metIn(a int64, b int64) syncStep {
	return syncStep{
		fmt.Sprint("MetIn of ", a, " and ", b),
		func(s impl.Sync) (impl.Sync, bool) { return impl.MetIn(s, a, b) },
		func(p *plainSync) bool { return p.metIn(a, b) },
	}
}

func syncDone(e impl.Event, on bool, touches ...impl.Touch) syncStep {
	return syncStep{
		fmt.Sprintf("SyncDone of %+v, %+v and %v", e, touches, on),
		func(s impl.Sync) (impl.Sync, bool) { return impl.SyncDone(s, e, touches, on) },
		func(p *plainSync) bool { return p.done(e, touches, on) },
	}
}

// goes asks twice, and fails where an answer is another one, where an argument is changed, or where memory is shared.
func goes(t *testing.T, what string, s impl.Sync, step syncStep, want impl.Sync, done bool) {
	t.Helper()
	given := roomySync(s)
	first, is := step.call(given)
	second, again := step.call(given)
	if is != done || !sameSync(first, want) {
		t.Fatalf("%s: %s in\n%+v is\n%+v and %v, not\n%+v and %v", what, step.what, s, first, is, want, done)
	}
	if again != done || !sameSync(second, want) {
		t.Fatalf("%s: %s in\n%+v, asked again, is\n%+v and %v, not\n%+v and %v", what, step.what, s, second, again, want, done)
	}
	if done && !impl.SyncOk(want) {
		t.Fatalf("%s: %s in\n%+v makes what is not SyncOk:\n%+v", what, step.what, s, want)
	}
	staysSync(t, what, given, s)
	lists := slices.Concat(numbersOf(first), numbersOf(second), numbersOf(given))
	spoilWith(second.Clocks, []int64{-9})
	spoilWith(second.Things, impl.Thing{Space: -9})
	if !sameSync(first, want) {
		t.Fatalf("%s: %s: a write to a second answer makes\n%+v of\n%+v", what, step.what, first, want)
	}
	spoilWith(first.Clocks, []int64{-9})
	spoilWith(first.Things, impl.Thing{Space: -9})
	staysSync(t, what, given, s)
	numbersApart(t, what, lists...)
}

// refusedStep fails where anything but the Sync as it is and false is answered.
func refusedStep(t *testing.T, what string, s impl.Sync, step syncStep) {
	t.Helper()
	goes(t, what, s, step, s, false)
}

// noSync fails where anything but the zero Sync and false is answered.
func noSync(t *testing.T, what string, s impl.Sync, step syncStep) {
	t.Helper()
	goes(t, what, s, step, impl.Sync{}, false)
}

// A plainThing has each number at its place, be it in the list or not.
type plainThing struct {
	ver              int64
	clock, got, sent [16]int64
}

// A plainSync tells the chapter's words without the program. What it is asked leaves it in any state where it answers false.
type plainSync struct {
	gors                      int64
	clocks                    [16][16]int64
	vers                      [16]int64
	things                    map[[3]int64]plainThing
	joins, skips, incs, meets int64
}

func spread(list []int64) (all [16]int64) {
	copy(all[:], list)
	return all
}

func listed(all [16]int64) []int64 { return trimmed(slices.Clone(all[:])) }

func plainSyncOf(s impl.Sync) *plainSync {
	p := &plainSync{gors: int64(len(s.Clocks)), vers: spread(s.Vers), things: map[[3]int64]plainThing{}, joins: s.Joins, skips: s.Skips, incs: s.Incs, meets: s.Meets}
	for g, clock := range s.Clocks {
		p.clocks[g] = spread(clock)
	}
	for _, thing := range s.Things {
		p.things[[3]int64{thing.Space, thing.Obj, thing.Slot}] = plainThing{thing.Ver, spread(thing.Clock), spread(thing.Got), spread(thing.Sent)}
	}
	return p
}

// everyThing are all things that there may be, rising.
func everyThing() (all [][3]int64) {
	for space := int64(1); space <= 7; space++ {
		for obj := range int64(16) {
			for slot := range int64(8) {
				all = append(all, [3]int64{space, obj, slot})
			}
		}
	}
	return all
}

func (p *plainSync) told() impl.Sync {
	s := impl.Sync{Vers: slices.Clone(p.vers[:p.gors]), Joins: p.joins, Skips: p.skips, Incs: p.incs, Meets: p.meets}
	for g := range p.gors {
		s.Clocks = append(s.Clocks, listed(p.clocks[g]))
	}
	for _, key := range everyThing() {
		if thing, is := p.things[key]; is {
			s.Things = append(s.Things, impl.Thing{Space: key[0], Obj: key[1], Slot: key[2], Clock: listed(thing.clock), Ver: thing.ver, Got: listed(thing.got), Sent: listed(thing.sent)})
		}
	}
	return s
}

// fits asks for all that a step can pass.
func (p *plainSync) fits() bool {
	for _, thing := range p.things {
		if thing.ver > most {
			return false
		}
	}
	for g := range p.gors {
		if p.vers[g] > most || p.clocks[g][g] > topTick {
			return false
		}
	}
	return len(p.things) <= 256 && max(p.joins, p.skips, p.incs, p.meets) <= most
}

func (p *plainSync) isThere(g int64) bool { return 0 <= g && g < p.gors }

func isThing(k impl.Touch) bool {
	return 1 <= k.Space && k.Space <= 7 && 0 <= k.Obj && k.Obj <= 15 && 0 <= k.Slot && k.Slot <= 7
}

// learn adds what the second one has to the first one, and tells whether that changed it.
func learn(mine *[16]int64, other [16]int64) (changed bool) {
	for g, n := range other {
		if n > mine[g] {
			mine[g] = n
			changed = true
		}
	}
	return changed
}

func (p *plainSync) took(g int64, k impl.Touch) bool {
	if !p.isThere(g) || !isThing(k) {
		return false
	}
	key := [3]int64{k.Space, k.Obj, k.Slot}
	thing, is := p.things[key]
	if !is {
		return true
	}
	if thing.got[g] >= thing.ver {
		p.skips++
		return p.fits()
	}
	p.joins++
	if learn(&p.clocks[g], thing.clock) {
		p.vers[g]++
	}
	thing.got[g] = thing.ver
	p.things[key] = thing
	return p.fits()
}

func (p *plainSync) gave(g int64, k impl.Touch) bool {
	if !p.isThere(g) || !isThing(k) {
		return false
	}
	key := [3]int64{k.Space, k.Obj, k.Slot}
	thing := p.things[key]
	if thing.sent[g] >= p.vers[g] {
		p.skips++
		return p.fits()
	}
	p.joins++
	if learn(&thing.clock, p.clocks[g]) {
		thing.ver++
	}
	thing.sent[g] = p.vers[g]
	p.things[key] = thing
	return p.fits()
}

func (p *plainSync) bumped(g int64) bool {
	if !p.isThere(g) {
		return false
	}
	p.clocks[g][g]++
	p.vers[g]++
	p.incs++
	return p.fits()
}

func (p *plainSync) forked(g int64) bool {
	if !p.isThere(g) || p.gors == 16 {
		return false
	}
	p.clocks[p.gors] = p.clocks[g]
	p.clocks[p.gors][p.gors] = 1
	p.vers[p.gors] = 1
	p.gors++
	return true
}

func (p *plainSync) metIn(a int64, b int64) bool {
	if !p.isThere(a) || !p.isThere(b) || a == b {
		return false
	}
	p.meets++
	known := p.clocks[a]
	if learn(&p.clocks[a], p.clocks[b]) {
		p.vers[a]++
	}
	if learn(&p.clocks[b], known) {
		p.vers[b]++
	}
	return p.fits()
}

func (p *plainSync) done(e impl.Event, touches []impl.Touch, on bool) bool {
	all := impl.EventOk(e)
	for _, k := range touches {
		all = all && (!k.Takes || p.took(e.Gor, k))
	}
	gives := false
	for _, k := range touches {
		all = all && (!k.Gives || p.gave(e.Gor, k))
		gives = gives || k.Gives
	}
	all = all && (e.Kind != 1 || p.forked(e.Gor))
	all = all && (e.Kind != 9 || p.metIn(e.Gor, e.With))
	all = all && (!on || e.Kind != 9 || p.bumped(e.Gor) && p.bumped(e.With))
	return all && (!on || e.Kind != 1 && !gives || p.bumped(e.Gor))
}

// isClockOf tells of a list whether it is one like the clocks of so many goroutines.
func isClockOf(list []int64, gors int) bool {
	for _, n := range list {
		if n < 0 || n > topTick {
			return false
		}
	}
	return len(list) <= 16 && len(list) <= gors && (len(list) == 0 || list[len(list)-1] != 0)
}

func isRightThing(thing impl.Thing, vers []int64) bool {
	for _, n := range thing.Got {
		if n > thing.Ver {
			return false
		}
	}
	for g, n := range thing.Sent {
		if g >= len(vers) || n > vers[g] {
			return false
		}
	}
	return isThing(touchAt(thing.Space, thing.Obj, thing.Slot)) && 0 <= thing.Ver && thing.Ver <= most &&
		isClockOf(thing.Clock, len(vers)) && isClockOf(thing.Got, len(vers)) && isClockOf(thing.Sent, len(vers))
}

// isRightSync is the chapter's first paragraph.
func isRightSync(s impl.Sync) bool {
	if len(s.Clocks) < 1 || len(s.Clocks) > 16 || len(s.Vers) != len(s.Clocks) || len(s.Things) > 256 {
		return false
	}
	for g, clock := range s.Clocks {
		if !isClockOf(clock, len(s.Clocks)) || placeOf(clock, g) == 0 || s.Vers[g] < 1 || s.Vers[g] > most {
			return false
		}
	}
	behind := int64(0)
	for _, thing := range s.Things {
		place := thing.Space*1000 + thing.Obj*10 + thing.Slot
		if !isRightThing(thing, s.Vers) || place <= behind {
			return false
		}
		behind = place
	}
	for _, n := range []int64{s.Joins, s.Skips, s.Incs, s.Meets} {
		if n < 0 || n > most {
			return false
		}
	}
	return true
}

func syncOk(t *testing.T, what string, s impl.Sync, want bool) {
	t.Helper()
	given := roomySync(s)
	if impl.SyncOk(given) != want || isRightSync(s) != want {
		t.Fatalf("%s: %+v: not %v", what, s, want)
	}
	staysSync(t, what, given, s)
}

// stepsAsPlain holds a step against the plain one, and hands out what is to go on with.
func stepsAsPlain(t *testing.T, what string, s impl.Sync, step syncStep) (impl.Sync, bool) {
	t.Helper()
	p := plainSyncOf(s)
	if !step.plain(p) {
		refusedStep(t, what, s, step)
		return s, false
	}
	want := p.told()
	goes(t, what, s, step, want, true)
	return want, true
}

// loneSync is so many goroutines that know of nothing but themselves.
func loneSync(gors int) (s impl.Sync) {
	for g := range gors {
		s.Clocks = append(s.Clocks, append(manyOf(g, 0), 1))
		s.Vers = append(s.Vers, 1)
	}
	return s
}

// bareThings are so many of which nobody knows, from the first ones on, or from the last ones.
func bareThings(count int, last bool) (things []impl.Thing) {
	all := everyThing()
	if last {
		all = all[len(all)-count:]
	}
	for _, key := range all[:count] {
		things = append(things, impl.Thing{Space: key[0], Obj: key[1], Slot: key[2]})
	}
	return things
}

// talkedSync has three goroutines and four things, with room on every side of each number.
func talkedSync() impl.Sync {
	return impl.Sync{
		Clocks: [][]int64{{5, 2}, {3, 4, 1}, {1, 0, 6}},
		Vers:   []int64{4, 7, 2},
		Things: []impl.Thing{
			{Space: 1, Obj: 3, Slot: 0, Clock: []int64{4, 2, 2}, Ver: 3, Got: []int64{3, 1}, Sent: []int64{4, 2}},
			{Space: 3, Obj: 3, Slot: 1, Clock: []int64{1}, Ver: 1, Got: []int64{0, 0, 1}, Sent: []int64{2}},
			{Space: 3, Obj: 3, Slot: 5, Clock: []int64{9, 9, 9}, Ver: 6, Got: []int64{5, 6}, Sent: []int64{3, 7, 1}},
			{Space: 7, Obj: 0, Slot: 0},
		},
		Joins: 11, Skips: 22, Incs: 33, Meets: 44,
	}
}

// fullSync has as many goroutines and as many things as there may be.
func fullSync() impl.Sync {
	s := loneSync(16)
	for g := range s.Clocks {
		s.Clocks[g] = manyOf(16, int64(g))
		s.Clocks[g][g] = 40
		s.Clocks[g][15] = max(1, s.Clocks[g][15])
		s.Vers[g] = 3
	}
	s.Things = bareThings(256, true)
	for i := range s.Things {
		s.Things[i].Clock, s.Things[i].Ver = append(manyOf(i%16, 0), 20), int64(1+i%3)
	}
	return s
}

func rightSyncs() []impl.Sync {
	topped := loneSync(2)
	topped.Clocks = [][]int64{{topTick, topTick}, {0, topTick}}
	topped.Vers = []int64{most, most}
	topped.Things = []impl.Thing{{Space: 7, Obj: 15, Slot: 7, Clock: []int64{topTick, topTick}, Ver: most, Got: []int64{most, most}, Sent: []int64{most, most}}}
	topped.Joins, topped.Skips, topped.Incs, topped.Meets = most, most, most, most
	return []impl.Sync{loneSync(1), loneSync(2), loneSync(15), loneSync(16), talkedSync(), fullSync(), topped}
}

func TestLimitsOfSyncs(t *testing.T) {
	if impl.MaxThings != 256 || len(everyThing()) != 896 {
		t.Fatal(impl.MaxThings, len(everyThing()))
	}
}

func TestNewSync(t *testing.T) {
	want := impl.Sync{Clocks: [][]int64{{1}}, Vers: []int64{1}}
	first, second := impl.NewSync(), impl.NewSync()
	if !sameSync(first, want) {
		t.Fatalf("%+v", first)
	}
	syncOk(t, "a new one", first, true)
	lists := append(numbersOf(first), numbersOf(second)...)
	spoilWith(second.Clocks, []int64{-9})
	spoilWith(append(second.Things, spareThing), impl.Thing{})
	if !sameSync(first, want) || !sameSync(impl.NewSync(), want) {
		t.Fatalf("behind a write to an answer: %+v and %+v", first, impl.NewSync())
	}
	numbersApart(t, "new ones", lists...)
	if again := impl.NewSync(); !sameSync(again, want) {
		t.Fatalf("behind a write to the lists of answers: %+v", again)
	}
}

func TestSyncOkOfRightSyncs(t *testing.T) {
	for _, s := range rightSyncs() {
		syncOk(t, "a right one", s, true)
	}
	syncOk(t, "the zero Sync", impl.Sync{}, false)
}

// None, one, MaxGors, one more, and many.
func TestSyncOkOfHowManyGoroutines(t *testing.T) {
	for _, gors := range []int{0, 1, 2, 3, 14, 15, 16, 17, 18, 32, 300} {
		s := loneSync(gors)
		syncOk(t, fmt.Sprint(gors, " goroutines"), s, 1 <= gors && gors <= 16)
		for g := range s.Clocks {
			s.Clocks[g] = manyOf(gors, 2)
		}
		syncOk(t, fmt.Sprint(gors, " goroutines that know of all"), s, 1 <= gors && gors <= 16)
		for g := range s.Clocks {
			s.Clocks[g] = manyOf(min(gors, 16), 2)
		}
		syncOk(t, fmt.Sprint(gors, " goroutines, clocks as long as may be"), s, 1 <= gors && gors <= 16)
	}
	none := impl.Sync{Things: []impl.Thing{{Space: 1}}, Joins: 1}
	syncOk(t, "things alone", none, false)
}

// Each clock in each place: those that are none, those that are too long for so few, and those that have nothing at their own place.
func TestSyncOkOfClocks(t *testing.T) {
	for _, gors := range []int{1, 2, 3, 15, 16} {
		for g := range gors {
			put := func(what string, clock []int64, want bool) {
				t.Helper()
				s := loneSync(gors)
				s.Clocks[g] = clock
				syncOk(t, fmt.Sprintf("%s: %v at %d of %d", what, clock, g, gors), s, want)
			}
			for _, clock := range rightClocks() {
				put("a right clock", clock, len(clock) <= gors && placeOf(clock, g) > 0)
			}
			for _, clock := range wrongClocks() {
				put("a wrong clock", clock, false)
			}
			for size := range 18 {
				put("so long", manyOf(size, 3), g < size && size <= gors)
				put("so long, and a nought behind it", append(manyOf(size, 3), 0), false)
			}
			for place := range gors {
				clock := manyOf(gors, 3)
				clock[place] = 0
				put("a nought", clock, place != g && place != gors-1)
				clock[place] = -1
				put("a number below 0", clock, false)
				clock[place] = topTick
				put("MaxTick", clock, true)
				clock[place] = topTick + 1
				put("one more", clock, false)
			}
		}
	}
}

func TestSyncOkOfVers(t *testing.T) {
	for _, gors := range []int{1, 2, 3, 16} {
		for size := range 19 {
			s := loneSync(gors)
			s.Vers = manyOf(size, 1)
			syncOk(t, fmt.Sprint(size, " Vers of ", gors), s, size == gors)
		}
		for g := range gors {
			for _, n := range append(oddNumbers(), most-1, most, most+1, most+1<<32) {
				s := loneSync(gors)
				s.Vers[g] = n
				syncOk(t, fmt.Sprint("Ver ", n, " at ", g), s, 1 <= n && n <= most)
			}
		}
	}
}

// None, one, MaxThings, one more, and all.
func TestSyncOkOfHowManyThings(t *testing.T) {
	for _, size := range []int{0, 1, 2, 128, 254, 255, 256, 257, 258, 300, 511, 512, 513, 895, 896} {
		for _, last := range []bool{false, true} {
			for _, gors := range []int{1, 16} {
				s := loneSync(gors)
				s.Things = bareThings(size, last)
				syncOk(t, fmt.Sprint(size, " Things"), s, size <= 256)
			}
		}
	}
}

// thingsBeside are at the ends of what they may be, and beside one another, rising.
func thingsBeside() (all []impl.Thing) {
	for _, space := range []int64{1, 2, 7} {
		for _, obj := range []int64{0, 1, 15} {
			for _, slot := range []int64{0, 1, 7} {
				all = append(all, impl.Thing{Space: space, Obj: obj, Slot: slot})
			}
		}
	}
	return all
}

// All pairs and threes: Space goes ahead of Obj, this ahead of Slot, and no two are alike, whatever else they have.
func TestSyncOkOfThingsThatRise(t *testing.T) {
	all := thingsBeside()
	for i, a := range all {
		for j, b := range all {
			s := loneSync(1)
			s.Things = []impl.Thing{a, b}
			syncOk(t, "a pair", s, i < j)
			s.Things[1].Ver, s.Things[1].Clock = 5, []int64{5}
			syncOk(t, "a pair, the second one known", s, i < j)
			s.Things[0], s.Things[1].Clock = impl.Thing{Space: a.Space, Obj: a.Obj, Slot: a.Slot, Ver: 9, Clock: []int64{9}, Sent: []int64{1}}, nil
			syncOk(t, "a pair, the first one known", s, i < j)
			for k, c := range all {
				s.Things = []impl.Thing{a, b, c}
				syncOk(t, "three", s, i < j && j < k)
			}
		}
	}
}

// At each place of a full list: two that changed places, and two alike.
func TestSyncOkOfThingsThatDoNotRise(t *testing.T) {
	full := fullSync()
	for at := 1; at < 256; at++ {
		s := copyOf(full)
		s.Things[at-1], s.Things[at] = s.Things[at], s.Things[at-1]
		syncOk(t, fmt.Sprint("swapped at ", at), s, false)
		s = copyOf(full)
		s.Things[at] = s.Things[at-1]
		syncOk(t, fmt.Sprint("alike at ", at), s, false)
		s.Things[at].Ver, s.Things[at].Clock, s.Things[at].Sent = 7, manyOf(3, 3), manyOf(2, 1)
		syncOk(t, fmt.Sprint("alike but for what it knows at ", at), s, false)
	}
}

// A thing alone, and as the first, the middle and the last one of several, each number by itself.
func TestSyncOkAtTheLimitsOfAThing(t *testing.T) {
	with := func(what string, want bool, things ...impl.Thing) {
		t.Helper()
		s := loneSync(3)
		s.Things = things
		syncOk(t, what, s, want)
	}
	for _, n := range append(oddNumbers(), 5, 6, 7, 8, 9, 1<<32+5) {
		space, obj, slot := impl.Thing{Space: n, Obj: 4, Slot: 4}, impl.Thing{Space: 4, Obj: n, Slot: 4}, impl.Thing{Space: 4, Obj: 4, Slot: n}
		with("Space", 1 <= n && n <= 7, space)
		with("Obj", 0 <= n && n <= 15, obj)
		with("Slot", 0 <= n && n <= 7, slot)
		first, last := impl.Thing{Space: 1, Obj: 0, Slot: 0}, impl.Thing{Space: 7, Obj: 15, Slot: 7}
		with("Space of the first one", 1 <= n && n <= 7, space, last)
		with("Space of the last one", 1 <= n && n <= 7, first, space)
		with("Obj of the middle one", 0 <= n && n <= 15, first, obj, last)
		with("Slot of the middle one", 0 <= n && n <= 7, first, slot, last)
		with("Obj of the last one, Space greater", 0 <= n && n <= 15, impl.Thing{Space: 3, Obj: 15, Slot: 7}, obj)
		with("Slot of the last one, Obj greater", 0 <= n && n <= 7, impl.Thing{Space: 4, Obj: 3, Slot: 7}, slot)
		with("all", 1 <= n && n <= 7, impl.Thing{Space: n, Obj: n, Slot: n})
	}
	for _, n := range append(oddNumbers(), most-1, most, most+1, most+1<<32) {
		for at := range 4 {
			s := talkedSync()
			for i := range s.Things {
				s.Things[i].Got = nil
			}
			s.Things[at].Ver = n
			syncOk(t, fmt.Sprint("Ver ", n, " of Thing ", at), s, 0 <= n && n <= most)
		}
	}
	for at := range 256 {
		s := fullSync()
		s.Things[at].Slot = 8
		syncOk(t, fmt.Sprint("a wrong Thing at ", at), s, false)
	}
}

// Each clock as the Clock, the Got and the Sent of a thing, of few goroutines and of many.
func TestSyncOkOfTheListsOfAThing(t *testing.T) {
	for _, gors := range []int{1, 2, 3, 15, 16} {
		put := func(what string, list []int64, want bool, low bool) {
			t.Helper()
			for at := range 3 {
				for name, set := range map[string]func(thing *impl.Thing){
					"Clock": func(thing *impl.Thing) { thing.Clock = list },
					"Got":   func(thing *impl.Thing) { thing.Got = list },
					"Sent":  func(thing *impl.Thing) { thing.Sent = list },
				} {
					s := loneSync(gors)
					s.Vers = manyOf(gors, most)
					s.Things = []impl.Thing{{Space: 1, Ver: most}, {Space: 3, Obj: 5, Slot: 7, Ver: most}, {Space: 7, Ver: most}}
					set(&s.Things[at])
					syncOk(t, fmt.Sprintf("%s: %v as the %s of %d", what, list, name, gors), s, want && (low || name == "Clock"))
				}
			}
		}
		for _, list := range rightClocks() {
			put("a right clock", list, len(list) <= gors, len(list) == 0 || slices.Max(list) <= most)
		}
		for _, list := range wrongClocks() {
			put("a wrong clock", list, false, true)
		}
		for size := range 18 {
			put("so long", manyOf(size, 3), size <= gors, true)
			put("so long, and a nought behind it", append(manyOf(size, 3), 0), false, true)
			if size > 0 {
				put("noughts, and one behind them", append(manyOf(size-1, 0), 1), size <= gors, true)
			}
		}
	}
}

// Got is at most Ver, Sent at each goroutine at most its version, each at its own place.
func TestSyncOkOfGotAndSent(t *testing.T) {
	for _, gors := range []int{1, 2, 5, 16} {
		for place := range gors {
			for _, n := range []int64{1, 2, 7, most - 1, most} {
				s := loneSync(gors)
				s.Vers = manyOf(gors, most)
				s.Vers[place] = n
				s.Things = []impl.Thing{{Space: 1, Ver: 4, Got: manyOf(gors, 4), Sent: manyOf(gors, 1)}, {Space: 2, Ver: n}, {Space: 3, Ver: 4, Got: manyOf(gors, 4)}}
				thing := &s.Things[1]
				for past := int64(-1); past <= 2; past++ {
					want := past <= 0 && n+past >= 0
					thing.Sent = nil
					thing.Got = append(manyOf(place, 0), n+past)
					syncOk(t, fmt.Sprint("Got ", past, " past Ver"), s, want && n+past != 0)
					thing.Got = manyOf(gors, min(n, 1))
					thing.Got[place] = n + past
					syncOk(t, fmt.Sprint("Got among others, ", past, " past Ver"), s, want && (n+past != 0 || place < gors-1))
					thing.Got = nil
					thing.Sent = append(manyOf(place, 0), n+past)
					syncOk(t, fmt.Sprint("Sent ", past, " past its version"), s, want && n+past != 0)
					thing.Sent = manyOf(gors, most)
					thing.Sent[place] = n + past
					syncOk(t, fmt.Sprint("Sent among others, ", past, " past its version"), s, want && (n+past != 0 || place < gors-1))
				}
			}
		}
	}
	for _, last := range []int{0, 1, 255} {
		s := fullSync()
		s.Things[last].Got = []int64{s.Things[last].Ver + 1}
		syncOk(t, fmt.Sprint("Got past Ver at ", last), s, false)
		s = fullSync()
		s.Things[last].Sent = []int64{3, 3, 4}
		syncOk(t, fmt.Sprint("Sent past the version at ", last), s, false)
	}
}

func countsOf(s *impl.Sync) []*int64 { return []*int64{&s.Joins, &s.Skips, &s.Incs, &s.Meets} }

func TestSyncOkOfCounts(t *testing.T) {
	for _, right := range rightSyncs() {
		for k := range 4 {
			for _, n := range append(oddNumbers(), most-1, most, most+1, most+1<<32) {
				s := right
				*countsOf(&s)[k] = n
				syncOk(t, fmt.Sprint("count ", k, " of ", n), s, 0 <= n && n <= most)
			}
		}
	}
}

// edged is a number from least to greatest, often at an end.
func (d *dice) edged(least int64, greatest int64) int64 {
	switch d.below(12) {
	case 0:
		return greatest
	case 1:
		return max(least, greatest-1)
	}
	return least + d.below(min(6, greatest-least+1))
}

// clockUnder is a list like a clock, with at each place at most what stands there.
func (d *dice) clockUnder(tops []int64) []int64 {
	list := make([]int64, d.below(int64(len(tops))+1))
	for g := range list {
		list[g] = d.edged(0, tops[g])
	}
	return trimmed(list)
}

// thrownSync is right, of so many goroutines and at most so many things, with a number at its greatest here and there.
func (d *dice) thrownSync(gors int64, things int64) (s impl.Sync) {
	tops := manyOf(int(gors), topTick)
	for g := range gors {
		all := spread(d.clockUnder(tops))
		all[g] = d.edged(1, topTick)
		s.Clocks = append(s.Clocks, listed(all))
		s.Vers = append(s.Vers, d.edged(1, most))
	}
	all := everyThing()
	for at := d.below(40); at < int64(len(all)) && int64(len(s.Things)) < things; at += 1 + d.below(60) {
		ver := d.edged(0, most)
		s.Things = append(s.Things, impl.Thing{Space: all[at][0], Obj: all[at][1], Slot: all[at][2], Clock: d.clockUnder(tops), Ver: ver, Got: d.clockUnder(manyOf(int(gors), ver)), Sent: d.clockUnder(s.Vers)})
	}
	for _, n := range countsOf(&s) {
		*n = d.edged(0, most)
	}
	return s
}

// One number of a right Sync is changed: it is right still, or not, just as the chapter's words tell.
func TestSyncOkOfThrownSyncs(t *testing.T) {
	met := map[bool]int{}
	for seed := range dice(4000) {
		d := 120000 + seed
		s := d.thrownSync(1+d.below(16), d.below(12))
		syncOk(t, "thrown", s, true)
		lists := numbersOf(s)
		list := lists[d.below(int64(len(lists)))]
		if len(list) == 0 {
			continue
		}
		at := d.below(int64(len(list)))
		list[at] = []int64{-1, 0, 1, 2, most, most + 1, topTick, topTick + 1, list[at] + 1, list[at] - 1}[d.below(10)]
		want := isRightSync(s)
		syncOk(t, "thrown, and one number changed", s, want)
		met[want]++
	}
	if met[true] < 500 || met[false] < 500 {
		t.Fatal(met)
	}
}

// A thing there is not: nothing is learnt of it, and nothing is changed, not even a count; who takes must be there all the same.
func TestTookOfNoThing(t *testing.T) {
	for _, s := range rightSyncs() {
		there := map[[3]int64]bool{}
		for _, thing := range s.Things {
			there[[3]int64{thing.Space, thing.Obj, thing.Slot}] = true
		}
		for k, key := range everyThing() {
			if there[key] || k%7 != 0 && len(s.Things) > 4 {
				continue
			}
			g := int64(k % len(s.Clocks))
			goes(t, "no thing", s, took(g, touchAt(key[0], key[1], key[2])), s, true)
		}
		refusedStep(t, "no goroutine", s, took(int64(len(s.Clocks)), touchAt(2, 2, 2)))
		refusedStep(t, "no goroutine", s, took(-1, touchAt(2, 2, 2)))
	}
}

// Took, written out.
func TestTookOfExamples(t *testing.T) {
	s := talkedSync()
	want := talkedSync()
	want.Skips = 23
	goes(t, "skipped, Got is Ver", s, took(0, touchAt(1, 3, 0)), want, true)
	goes(t, "skipped, the last of Got", s, took(2, touchAt(3, 3, 1)), want, true)
	goes(t, "skipped, Ver is 0", s, took(1, touchAt(7, 0, 0)), want, true)
	goes(t, "skipped, whatever the clock has", s, took(1, touchAt(3, 3, 5)), want, true)
	want = talkedSync()
	want.Joins, want.Clocks[1], want.Vers[1], want.Things[0].Got = 12, []int64{4, 4, 2}, 8, []int64{3, 3}
	goes(t, "learnt", s, took(1, touchAt(1, 3, 0)), want, true)
	want = talkedSync()
	want.Joins, want.Clocks[2], want.Vers[2], want.Things[0].Got = 12, []int64{4, 2, 6}, 3, []int64{3, 1, 3}
	goes(t, "learnt, behind the end of Got", s, took(2, touchAt(1, 3, 0)), want, true)
	want = talkedSync()
	want.Joins, want.Things[1].Got = 12, []int64{1, 0, 1}
	goes(t, "nothing new: the version stays", s, took(0, touchAt(3, 3, 1)), want, true)
	want.Things[1].Got = []int64{0, 1, 1}
	goes(t, "nothing new in the middle of Got", s, took(1, touchAt(3, 3, 1)), want, true)
	want = talkedSync()
	want.Joins, want.Clocks[0], want.Vers[0], want.Things[2].Got = 12, []int64{9, 9, 9}, 5, []int64{6, 6}
	goes(t, "all of it is new", s, took(0, touchAt(3, 3, 5)), want, true)
	want = talkedSync()
	want.Joins, want.Clocks[2], want.Vers[2], want.Things[2].Got = 12, []int64{9, 9, 9}, 3, []int64{5, 6, 6}
	goes(t, "all of it is new", s, took(2, touchAt(3, 3, 5)), want, true)
	goes(t, "the flags have no say", s, took(2, givesAt(3, 3, 5)), want, true)
	goes(t, "the flags have no say", s, took(2, bothAt(3, 3, 5)), want, true)
}

// Gave, written out.
func TestGaveOfExamples(t *testing.T) {
	s := talkedSync()
	want := talkedSync()
	want.Skips = 23
	goes(t, "skipped, Sent is the version", s, gave(0, touchAt(1, 3, 0)), want, true)
	goes(t, "skipped, in the middle of Sent", s, gave(1, touchAt(3, 3, 5)), want, true)
	want = talkedSync()
	want.Joins, want.Things[0].Clock, want.Things[0].Ver, want.Things[0].Sent = 12, []int64{4, 4, 2}, 4, []int64{4, 7}
	goes(t, "given", s, gave(1, touchAt(1, 3, 0)), want, true)
	want = talkedSync()
	want.Joins, want.Things[0].Clock, want.Things[0].Ver, want.Things[0].Sent = 12, []int64{4, 2, 6}, 4, []int64{4, 2, 2}
	goes(t, "given, behind the end of Sent", s, gave(2, touchAt(1, 3, 0)), want, true)
	want = talkedSync()
	want.Joins, want.Things[2].Sent = 12, []int64{4, 7, 1}
	goes(t, "nothing new: Ver stays", s, gave(0, touchAt(3, 3, 5)), want, true)
	want.Things[2].Sent = []int64{3, 7, 2}
	goes(t, "nothing new, the last of Sent", s, gave(2, touchAt(3, 3, 5)), want, true)
	want = talkedSync()
	want.Joins, want.Things[1].Clock, want.Things[1].Ver, want.Things[1].Sent = 12, []int64{5, 2}, 2, []int64{4}
	goes(t, "all of it is new", s, gave(0, touchAt(3, 3, 1)), want, true)
	goes(t, "the flags have no say", s, gave(0, takesAt(3, 3, 1)), want, true)
	goes(t, "the flags have no say", s, gave(0, bothAt(3, 3, 1)), want, true)
	want = talkedSync()
	want.Joins, want.Things[3] = 12, impl.Thing{Space: 7, Clock: []int64{1, 0, 6}, Ver: 1, Sent: []int64{0, 0, 2}}
	goes(t, "the first one that gives", s, gave(2, touchAt(7, 0, 0)), want, true)
}

// A thing that there was not, in its place: ahead of all, between any two, behind all.
func TestGaveToANewThing(t *testing.T) {
	for _, s := range rightSyncs()[:5] {
		for k, key := range everyThing() {
			g := int64(k % len(s.Clocks))
			fresh := impl.Thing{Space: key[0], Obj: key[1], Slot: key[2], Clock: s.Clocks[g], Ver: 1, Sent: append(manyOf(int(g), 0), s.Vers[g])}
			at := slices.IndexFunc(s.Things, func(thing impl.Thing) bool {
				return thing.Space*1000+thing.Obj*10+thing.Slot >= key[0]*1000+key[1]*10+key[2]
			})
			if at < 0 {
				at = len(s.Things)
			}
			if at < len(s.Things) && [3]int64{s.Things[at].Space, s.Things[at].Obj, s.Things[at].Slot} == key {
				continue
			}
			want := copyOf(s)
			want.Joins++
			want.Things = slices.Insert(want.Things, at, fresh)
			goes(t, "a new thing", s, gave(g, touchAt(key[0], key[1], key[2])), want, true)
		}
	}
}

// Room for one thing more, for none, and for one that is there.
func TestGaveAtMaxThings(t *testing.T) {
	full := fullSync()
	for _, key := range []impl.Touch{touchAt(1, 0, 0), touchAt(3, 3, 3), touchAt(5, 15, 7)} {
		if slices.ContainsFunc(full.Things, func(thing impl.Thing) bool { return touchAt(thing.Space, thing.Obj, thing.Slot) == key }) {
			t.Fatalf("%+v is there", key)
		}
		for g := range int64(16) {
			refusedStep(t, "no room", full, gave(g, key))
			goes(t, "none to take of", full, took(g, key), full, true)
			room := copyOf(full)
			room.Things = room.Things[1:]
			stepsAsPlain(t, "room for one", room, gave(g, key))
		}
	}
	for at, thing := range full.Things {
		if _, is := stepsAsPlain(t, "is there", full, gave(int64(at%16), touchAt(thing.Space, thing.Obj, thing.Slot))); !is {
			t.Fatalf("refused: %+v", thing)
		}
	}
}

func TestBumpedOfExamples(t *testing.T) {
	s := talkedSync()
	for g, clock := range [][]int64{{6, 2}, {3, 5, 1}, {1, 0, 7}} {
		want := talkedSync()
		want.Clocks[g], want.Incs = clock, 34
		want.Vers[g]++
		goes(t, "one more", s, bumped(int64(g)), want, true)
	}
	near := loneSync(16)
	near.Clocks[15][15] = topTick - 1
	want := copyOf(near)
	want.Clocks[15][15], want.Vers[15], want.Incs = topTick, 2, 1
	goes(t, "up to MaxTick", near, bumped(15), want, true)
	refusedStep(t, "past MaxTick", want, bumped(15))
}

// Where there is room, and where there are MaxGors.
func TestForkedOfExamples(t *testing.T) {
	s := talkedSync()
	for g, clock := range [][]int64{{5, 2, 0, 1}, {3, 4, 1, 1}, {1, 0, 6, 1}} {
		want := talkedSync()
		want.Clocks, want.Vers = append(want.Clocks, clock), append(want.Vers, 1)
		goes(t, "one more", s, forked(int64(g)), want, true)
	}
	s = impl.NewSync()
	for size := 1; size <= 16; size++ {
		for g := range int64(size) {
			if _, is := stepsAsPlain(t, "each one", s, forked(g)); is != (size < 16) {
				t.Fatalf("%d of %d: %v", g, size, is)
			}
		}
		s, _ = impl.Forked(s, int64(size-1))
	}
	if len(s.Clocks) != 16 || !slices.Equal(s.Clocks[15], manyOf(16, 1)) {
		t.Fatalf("%+v", s)
	}
	for _, full := range []impl.Sync{loneSync(16), fullSync()} {
		for g := range int64(16) {
			refusedStep(t, "MaxGors", full, forked(g))
		}
	}
}

// Both clocks change, one does, the other one does, neither does.
func TestMetInOfExamples(t *testing.T) {
	s := talkedSync()
	s.Clocks = append(s.Clocks, []int64{5, 4, 1, 1}, []int64{5, 4, 1, 1, 1})
	s.Vers = append(s.Vers, 50, 60)
	met := func(what string, a int64, b int64, clock []int64, versA int64, versB int64) {
		t.Helper()
		want := copyOf(s)
		want.Meets = 45
		want.Clocks[a], want.Clocks[b] = clock, slices.Clone(clock)
		want.Vers[a], want.Vers[b] = versA, versB
		goes(t, what, s, metIn(a, b), want, true)
		goes(t, what+", the other way round", s, metIn(b, a), want, true)
	}
	met("both change", 0, 1, []int64{5, 4, 1}, 5, 8)
	met("both change", 0, 2, []int64{5, 2, 6}, 5, 3)
	met("both change", 1, 2, []int64{3, 4, 6}, 8, 3)
	met("one changes", 0, 3, []int64{5, 4, 1, 1}, 5, 50)
	met("one changes", 4, 1, []int64{5, 4, 1, 1, 1}, 60, 8)
	met("one changes", 3, 4, []int64{5, 4, 1, 1, 1}, 51, 60)
	for g := range int64(5) {
		refusedStep(t, "a is b", s, metIn(g, g))
		refusedStep(t, "b is not there", s, metIn(g, 5))
		refusedStep(t, "a is not there", s, metIn(5, g))
		refusedStep(t, "b is below 0", s, metIn(g, -1))
		refusedStep(t, "a is below 0", s, metIn(-1, g))
	}
	s = impl.Sync{Clocks: [][]int64{{2, 3}, {2, 3}}, Vers: []int64{8, 9}, Meets: 44}
	met("neither changes", 0, 1, []int64{2, 3}, 8, 9)
	s.Clocks[0] = []int64{2, 2}
	met("the first one alone", 0, 1, []int64{2, 3}, 9, 9)
	s.Clocks[0] = []int64{2, 4}
	met("the second one alone", 0, 1, []int64{2, 4}, 8, 10)
}

// oddSteps are steps of goroutines that there are not, and of touches beyond either end.
func oddSteps(gors int64) (all []syncStep) {
	for _, n := range append(oddNumbers(), gors, gors+1, -2, gors+1<<32) {
		if n < 0 || n >= gors {
			all = append(all, bumped(n), forked(n), metIn(n, 0), metIn(0, n), metIn(n, n), metIn(n, n+1), took(n, touchAt(1, 3, 0)), took(n, touchAt(6, 6, 6)), gave(n, touchAt(1, 3, 0)), gave(n, touchAt(6, 6, 6)))
		}
		for _, g := range []int64{0, gors - 1, gors} {
			if n < 1 || n > 7 {
				all = append(all, took(g, touchAt(n, 3, 0)), gave(g, touchAt(n, 3, 0)))
			}
			if n < 0 || n > 15 {
				all = append(all, took(g, touchAt(1, n, 0)), gave(g, touchAt(1, n, 0)))
			}
			if n < 0 || n > 7 {
				all = append(all, took(g, touchAt(1, 3, n)), gave(g, touchAt(3, 3, n)), took(g, touchAt(3, 3, n)))
			}
			all = append(all, took(g, touchAt(n, n+16, n)), gave(g, touchAt(n, n, n+8)))
		}
	}
	for _, space := range []int64{0, 8} {
		for obj := range int64(16) {
			all = append(all, took(0, touchAt(space, obj, obj%8)), gave(0, touchAt(space, obj, obj%8)))
		}
	}
	return all
}

func TestStepsThatAreRefused(t *testing.T) {
	for _, s := range rightSyncs() {
		for _, step := range oddSteps(int64(len(s.Clocks))) {
			refusedStep(t, "odd", s, step)
		}
	}
}

// syncFaults are changes of talkedSync, each of which makes a wrong one of it.
func syncFaults() map[string]func(s *impl.Sync) {
	all := map[string]func(s *impl.Sync){
		"nothing":                  func(s *impl.Sync) { *s = impl.Sync{} },
		"no goroutine":             func(s *impl.Sync) { s.Clocks, s.Vers = nil, nil },
		"too many goroutines":      func(s *impl.Sync) { *s = loneSync(17) },
		"no Vers":                  func(s *impl.Sync) { s.Vers = nil },
		"fewer Vers":               func(s *impl.Sync) { s.Vers = s.Vers[:2] },
		"more Vers":                func(s *impl.Sync) { s.Vers = append(s.Vers, 1) },
		"a Ver of 0":               func(s *impl.Sync) { s.Vers[2] = 0 },
		"too great a Ver":          func(s *impl.Sync) { s.Vers[0] = most + 1 },
		"a nought behind":          func(s *impl.Sync) { s.Clocks[0] = []int64{5, 2, 0} },
		"a clock below 0":          func(s *impl.Sync) { s.Clocks[1][0] = -1 },
		"too great a tick":         func(s *impl.Sync) { s.Clocks[1][0] = topTick + 1 },
		"too long a clock":         func(s *impl.Sync) { s.Clocks[0] = []int64{5, 2, 1, 1} },
		"much too long a clock":    func(s *impl.Sync) { s.Clocks[0] = manyOf(4000, 1) },
		"nothing at its own place": func(s *impl.Sync) { s.Clocks[1][1] = 0 },
		"no clock":                 func(s *impl.Sync) { s.Clocks[0] = nil },
		"a short clock":            func(s *impl.Sync) { s.Clocks[2] = []int64{1} },
		"two things alike":         func(s *impl.Sync) { s.Things[1] = s.Things[0] },
		"things that fall":         func(s *impl.Sync) { s.Things[1], s.Things[2] = s.Things[2], s.Things[1] },
		"too many things":          func(s *impl.Sync) { s.Things = bareThings(257, false) },
		"Space 0":                  func(s *impl.Sync) { s.Things[0].Space = 0 },
		"Space 8":                  func(s *impl.Sync) { s.Things[3].Space = 8 },
		"Obj -1":                   func(s *impl.Sync) { s.Things[0].Obj = -1 },
		"Obj 16":                   func(s *impl.Sync) { s.Things[3].Obj = 16 },
		"Slot -1":                  func(s *impl.Sync) { s.Things[0].Slot = -1 },
		"Slot 8":                   func(s *impl.Sync) { s.Things[3].Slot = 8 },
		"too long a thing's clock": func(s *impl.Sync) { s.Things[1].Clock = manyOf(4, 1) },
		"a nought behind a clock":  func(s *impl.Sync) { s.Things[1].Clock = []int64{1, 0} },
		"a thing's Ver below 0":    func(s *impl.Sync) { s.Things[3].Ver = -1 },
		"too great a thing's Ver":  func(s *impl.Sync) { s.Things[0].Ver = most + 1 },
		"Got more than Ver":        func(s *impl.Sync) { s.Things[0].Got[1] = 4 },
		"too long a Got":           func(s *impl.Sync) { s.Things[0].Got = manyOf(4, 1) },
		"a nought behind Got":      func(s *impl.Sync) { s.Things[0].Got = []int64{3, 0} },
		"Got below 0":              func(s *impl.Sync) { s.Things[0].Got[0] = -1 },
		"Sent more than a version": func(s *impl.Sync) { s.Things[2].Sent[2] = 3 },
		"too long a Sent":          func(s *impl.Sync) { s.Things[0].Sent = manyOf(4, 1) },
		"a nought behind Sent":     func(s *impl.Sync) { s.Things[0].Sent = []int64{3, 0} },
		"Sent below 0":             func(s *impl.Sync) { s.Things[0].Sent[0] = -1 },
	}
	for k := range 4 {
		for _, n := range []int64{math.MinInt64, -1, most + 1, math.MaxInt64} {
			all[fmt.Sprint("count ", k, " of ", n)] = func(s *impl.Sync) { *countsOf(s)[k] = n }
		}
	}
	return all
}

// A wrong Sync goes ahead of all else: the zero Sync and false, be the step right, skipped, nothing at all, or refused.
func TestStepsOfWrongSyncs(t *testing.T) {
	read := impl.Event{Kind: impl.EvRead, Size: 1}
	steps := append(oddSteps(3),
		took(0, touchAt(1, 3, 0)), took(1, touchAt(1, 3, 0)), took(0, touchAt(2, 2, 2)),
		gave(0, touchAt(1, 3, 0)), gave(1, touchAt(1, 3, 0)), gave(0, touchAt(2, 2, 2)),
		bumped(0), bumped(2), forked(0), forked(2), metIn(0, 1), metIn(2, 0), metIn(1, 1),
		syncDone(read, false), syncDone(read, true), syncDone(impl.Event{}, false), syncDone(impl.Event{}, true),
		syncDone(impl.Event{Kind: impl.EvGo, Obj: 1}, true), syncDone(impl.Event{Kind: impl.EvMeet, With: 1}, true), syncDone(impl.Event{Kind: impl.EvMeet}, false),
		syncDone(read, true, bothAt(1, 3, 0)), syncDone(read, true, takesAt(8, 3, 0)))
	for what, put := range syncFaults() {
		s := talkedSync()
		put(&s)
		syncOk(t, what, s, false)
		for _, step := range steps {
			noSync(t, what, s, step)
		}
	}
}

// A limitCase is a number of talkedSync put to its greatest, and a step that passes it, or does not.
type limitCase struct {
	what string
	put  func(s *impl.Sync)
	step syncStep
	is   bool
}

func limitCases() []limitCase {
	joins := func(s *impl.Sync) { s.Joins = most }
	skips := func(s *impl.Sync) { s.Skips = most }
	incs := func(s *impl.Sync) { s.Incs = most }
	meets := func(s *impl.Sync) { s.Meets = most }
	ver := func(g int) func(s *impl.Sync) { return func(s *impl.Sync) { s.Vers[g] = most } }
	thingVer := func(i int) func(s *impl.Sync) { return func(s *impl.Sync) { s.Things[i].Ver = most } }
	tick := func(g int) func(s *impl.Sync) { return func(s *impl.Sync) { s.Clocks[g][g] = topTick } }
	alike := func(s *impl.Sync) { s.Clocks = [][]int64{{1, 1}, {1, 1}, {1, 1, 1}} }
	both := func(all ...func(s *impl.Sync)) func(s *impl.Sync) {
		return func(s *impl.Sync) {
			for _, put := range all {
				put(s)
			}
		}
	}
	return []limitCase{
		{"Joins, taken", joins, took(1, touchAt(1, 3, 0)), false},
		{"Joins, taken with nothing new", joins, took(0, touchAt(3, 3, 1)), false},
		{"Joins, skipped", joins, took(0, touchAt(1, 3, 0)), true},
		{"Joins, none there", joins, took(0, touchAt(2, 3, 0)), true},
		{"Joins, given", joins, gave(1, touchAt(1, 3, 0)), false},
		{"Joins, given with nothing new", joins, gave(0, touchAt(3, 3, 5)), false},
		{"Joins, given to a new one", joins, gave(0, touchAt(2, 3, 0)), false},
		{"Joins, given and skipped", joins, gave(0, touchAt(1, 3, 0)), true},
		{"Joins, others", joins, bumped(0), true},
		{"Joins, others", joins, metIn(0, 1), true},
		{"Joins, others", joins, forked(1), true},
		{"Skips, taken", skips, took(1, touchAt(1, 3, 0)), true},
		{"Skips, skipped", skips, took(0, touchAt(1, 3, 0)), false},
		{"Skips, none there", skips, took(0, touchAt(2, 3, 0)), true},
		{"Skips, given", skips, gave(1, touchAt(1, 3, 0)), true},
		{"Skips, given and skipped", skips, gave(0, touchAt(1, 3, 0)), false},
		{"Skips, given to a new one", skips, gave(0, touchAt(2, 3, 0)), true},
		{"Incs, bumped", incs, bumped(1), false},
		{"Incs, others", incs, took(1, touchAt(1, 3, 0)), true},
		{"Incs, others", incs, gave(1, touchAt(1, 3, 0)), true},
		{"Incs, others", incs, metIn(1, 2), true},
		{"Incs, others", incs, forked(0), true},
		{"Meets, met", meets, metIn(0, 1), false},
		{"Meets, others", meets, bumped(0), true},
		{"Meets, met with nothing new", both(meets, alike), metIn(0, 1), false},
		{"a version, taken", ver(1), took(1, touchAt(1, 3, 0)), false},
		{"a version, taken with nothing new", ver(1), took(1, touchAt(3, 3, 1)), true},
		{"a version, skipped", ver(0), took(0, touchAt(1, 3, 0)), true},
		{"another one's version, taken", ver(0), took(1, touchAt(1, 3, 0)), true},
		{"a version, given", ver(1), gave(1, touchAt(1, 3, 0)), true},
		{"a version, bumped", ver(2), bumped(2), false},
		{"another one's version, bumped", ver(2), bumped(1), true},
		{"a version, forked", ver(2), forked(2), true},
		{"the first one's version, met", ver(0), metIn(0, 1), false},
		{"the second one's version, met", ver(1), metIn(0, 1), false},
		{"another one's version, met", ver(2), metIn(0, 1), true},
		{"the versions, met with nothing new", both(ver(0), ver(1), alike), metIn(0, 1), true},
		{"the first one's version, met with nothing new for it", both(ver(2), alike), metIn(2, 0), true},
		{"the first one's version, met with something new", both(ver(0), alike), metIn(0, 2), false},
		{"the second one's version, met with something new", both(ver(0), alike), metIn(2, 0), false},
		{"a thing's Ver, given", thingVer(0), gave(1, touchAt(1, 3, 0)), false},
		{"a thing's Ver, given with nothing new", thingVer(2), gave(0, touchAt(3, 3, 5)), true},
		{"a thing's Ver, given and skipped", thingVer(0), gave(0, touchAt(1, 3, 0)), true},
		{"a thing's Ver, taken", thingVer(0), took(0, touchAt(1, 3, 0)), true},
		{"another thing's Ver, given", thingVer(2), gave(1, touchAt(1, 3, 0)), true},
		{"a tick, bumped", tick(1), bumped(1), false},
		{"another one's tick, bumped", tick(1), bumped(0), true},
		{"a tick, given", tick(1), gave(1, touchAt(1, 3, 0)), true},
		{"a tick, taken", tick(1), took(1, touchAt(1, 3, 0)), true},
		{"a tick, forked", tick(1), forked(1), true},
		{"a tick, met", tick(1), metIn(1, 2), true},
	}
}

// Each number at its greatest: what passes it is refused, all else goes on; one less, and all goes on.
func TestStepsAtTheLimits(t *testing.T) {
	for _, c := range limitCases() {
		s := talkedSync()
		c.put(&s)
		syncOk(t, c.what, s, true)
		if _, is := stepsAsPlain(t, c.what, s, c.step); is != c.is {
			t.Fatalf("%s: %s: %v", c.what, c.step.what, is)
		}
		less := copyOf(s)
		for _, list := range append(numbersOf(less), []int64{}) {
			for k, n := range list {
				if n == most || n == topTick {
					list[k]--
				}
			}
		}
		for i := range less.Things {
			less.Things[i].Ver = min(less.Things[i].Ver, most-1)
		}
		for _, n := range countsOf(&less) {
			*n = min(*n, most-1)
		}
		if _, is := stepsAsPlain(t, c.what+", one less", less, c.step); !is {
			t.Fatalf("%s, one less: %s is refused", c.what, c.step.what)
		}
	}
}

// thrownTouch is often one of a thing there is, or beside it, and now and then none at all.
func (d *dice) thrownTouch(s impl.Sync) impl.Touch {
	k := impl.Touch{Space: 1 + d.below(7), Obj: d.below(16), Slot: d.below(8), Takes: d.below(2) == 0, Gives: d.below(2) == 0}
	if size := int64(len(s.Things)); size > 0 && d.below(4) != 0 {
		thing := s.Things[d.below(size)]
		k.Space, k.Obj, k.Slot = thing.Space, thing.Obj, thing.Slot
	}
	switch d.below(60) {
	case 0:
		k.Space = 8 * d.below(2)
	case 1:
		k.Obj = 17*d.below(2) - 1
	case 2:
		k.Slot = 9*d.below(2) - 1
	case 3:
		k.Slot = d.below(8)
	}
	return k
}

func (d *dice) thrownStep(s impl.Sync) syncStep {
	gors := int64(len(s.Clocks))
	g := d.below(gors)
	if d.below(40) == 0 {
		g = gors - d.below(2)*(gors+1)
	}
	switch d.below(8) {
	case 0, 1:
		return took(g, d.thrownTouch(s))
	case 2, 3:
		return gave(g, d.thrownTouch(s))
	case 4:
		return bumped(g)
	case 5:
		if d.below(4) == 0 {
			return forked(g)
		}
		return metIn(g, d.below(gors))
	}
	return d.thrownDone(s)
}

func (d *dice) thrownDone(s impl.Sync) syncStep {
	var touches []impl.Touch
	for range d.below(4) {
		touches = append(touches, d.thrownTouch(s))
	}
	e := d.event(int64(len(s.Clocks)), 16)
	e.Gor %= int64(len(s.Clocks)) + d.below(2)
	if d.below(3) == 0 {
		e = impl.Event{Kind: 9, Gor: e.Gor, Obj: 1, With: d.below(int64(len(s.Clocks)))}
	}
	return syncDone(e, d.below(2) == 0, touches...)
}

// Any right Sync, and any step.
func TestStepsOfThrownSyncs(t *testing.T) {
	met := map[bool]int{}
	for seed := range dice(3000) {
		d := 121000 + seed
		s := d.thrownSync(1+d.below(16), d.below(12))
		for range 6 {
			_, is := stepsAsPlain(t, fmt.Sprint("thrown ", seed), s, d.thrownStep(s))
			met[is]++
		}
	}
	if met[true] < 5000 || met[false] < 3000 {
		t.Fatal(met)
	}
}

// Long walks from NewSync on, with all that can come of a step met on the way.
func TestStepsOfWalks(t *testing.T) {
	met := map[string]int{}
	for seed := range dice(30) {
		d := 122000 + seed
		s := impl.NewSync()
		for n := range 400 {
			step := d.thrownStep(s)
			next, is := stepsAsPlain(t, fmt.Sprint("walk ", seed, ", step ", n), s, step)
			met[fmt.Sprint(step.what[:4], is)]++
			if is && step.what[:4] != "Sync" && len(next.Clocks) == len(s.Clocks) {
				met[fmt.Sprint(step.what[:4], next.Joins-s.Joins, next.Skips-s.Skips, !slices.Equal(next.Vers, s.Vers), len(next.Things)-len(s.Things))]++
			}
			s = next
		}
	}
	for _, what := range []string{
		"Tooktrue", "Gavetrue", "Bumptrue", "Forktrue", "MetItrue", "Synctrue",
		"Tookfalse", "Gavefalse", "Bumpfalse", "Forkfalse", "MetIfalse", "Syncfalse",
		"Took0 0 false 0", "Took0 1 false 0", "Took1 0 true 0", "Took1 0 false 0",
		"Gave0 1 false 0", "Gave1 0 false 0", "Gave1 0 false 1", "Bump0 0 true 0", "MetI0 0 true 0", "MetI0 0 false 0",
	} {
		if met[what] < 5 {
			t.Errorf("%s: %d times; %v", what, met[what], met)
		}
	}
}

// What is skipped changes one count alone, as often as it is asked, till a version is one more.
func TestSkipsChangeNothing(t *testing.T) {
	s := talkedSync()
	for n := range int64(50) {
		next, is := impl.Took(s, 0, touchAt(1, 3, 0))
		same := copyOf(s)
		same.Skips++
		if !is || !sameSync(next, same) {
			t.Fatalf("%d: %+v", n, next)
		}
		s = next
	}
	s = talkedSync()
	for n := range int64(20) {
		s, _ = impl.Gave(s, 1, touchAt(7, 0, 0))
		s, _ = impl.Took(s, 0, touchAt(7, 0, 0))
		if n == 0 && (s.Joins != 13 || s.Skips != 22) || n > 0 && (s.Joins != 13+2*(n/5) || s.Skips != 22+2*(n-n/5)) {
			t.Fatalf("%d: %d and %d", n, s.Joins, s.Skips)
		}
		if n%5 == 4 {
			s, _ = impl.Bumped(s, 1)
		}
	}
}

// touchLists are none, one and several, with each pair of flags, of things there are and of one there is not.
func touchLists() (all [][]impl.Touch) {
	all = append(all, nil)
	for _, k := range []impl.Touch{touchAt(1, 3, 0), touchAt(3, 3, 1), touchAt(3, 3, 5), touchAt(7, 0, 0), touchAt(4, 4, 4)} {
		for flags := range 4 {
			k.Takes, k.Gives = flags%2 == 1, flags/2 == 1
			all = append(all, []impl.Touch{k})
		}
	}
	return append(all,
		[]impl.Touch{takesAt(1, 3, 0), takesAt(3, 3, 5)},
		[]impl.Touch{givesAt(1, 3, 0), givesAt(4, 4, 4)},
		[]impl.Touch{givesAt(3, 3, 1), takesAt(3, 3, 5)},
		[]impl.Touch{givesAt(4, 4, 4), takesAt(4, 4, 4)},
		[]impl.Touch{bothAt(3, 3, 1), bothAt(3, 3, 5), bothAt(4, 4, 4)},
		[]impl.Touch{bothAt(3, 3, 1), bothAt(3, 3, 1)},
		[]impl.Touch{takesAt(2, 2, 2), touchAt(9, 9, 9), givesAt(2, 2, 2)},
		slices.Repeat([]impl.Touch{bothAt(1, 3, 0), givesAt(6, 6, 6), takesAt(7, 0, 0)}, 100),
	)
}

// Each Kind, on and not, with each list of touches.
func TestSyncDoneOfEveryKind(t *testing.T) {
	s := talkedSync()
	for _, c := range kindCases() {
		for gor := range int64(4) {
			e := eventOf(c.kind, gor, c.middles())
			if c.kind == 9 {
				e.With = (gor + 1) % 3
			}
			for _, touches := range touchLists() {
				given := padded(touches, spareTouch)
				for _, on := range []bool{false, true} {
					stepsAsPlain(t, fmt.Sprint("Kind ", c.kind), s, syncDone(e, on, given...))
				}
				staysPadded(t, "touches", given, touches, spareTouch)
			}
		}
	}
}

// SyncDone, written out.
func TestSyncDoneOfExamples(t *testing.T) {
	s := talkedSync()
	unlock := impl.Event{Kind: impl.EvUnlock, Gor: 1, Obj: 3}
	want := talkedSync()
	goes(t, "nothing", s, syncDone(unlock, false), want, true)
	goes(t, "nothing, on", s, syncDone(unlock, true), want, true)
	want.Joins, want.Things[0].Clock, want.Things[0].Ver, want.Things[0].Sent = 12, []int64{4, 4, 2}, 4, []int64{4, 7}
	goes(t, "given", s, syncDone(unlock, false, givesAt(1, 3, 0)), want, true)
	want.Clocks[1], want.Vers[1], want.Incs = []int64{3, 5, 1}, 8, 34
	goes(t, "given, on: a tick behind it", s, syncDone(unlock, true, givesAt(1, 3, 0)), want, true)
	want = talkedSync()
	want.Skips, want.Clocks[0], want.Vers[0], want.Incs = 23, []int64{6, 2}, 5, 34
	goes(t, "given and skipped, on: a tick all the same", s, syncDone(impl.Event{Kind: impl.EvUnlock, Obj: 3}, true, givesAt(1, 3, 0)), want, true)
	want = talkedSync()
	want.Joins, want.Clocks[1], want.Vers[1], want.Things[0].Got = 12, []int64{4, 4, 2}, 8, []int64{3, 3}
	goes(t, "taken", s, syncDone(unlock, false, takesAt(1, 3, 0)), want, true)
	goes(t, "taken, on: no tick", s, syncDone(unlock, true, takesAt(1, 3, 0)), want, true)
	want.Joins, want.Things[0].Clock, want.Things[0].Ver, want.Things[0].Sent = 13, []int64{4, 4, 2}, 4, []int64{4, 8}
	goes(t, "taken, then given", s, syncDone(unlock, false, bothAt(1, 3, 0)), want, true)
	want.Joins, want.Clocks[1], want.Vers[1], want.Incs = 13, []int64{4, 5, 2}, 9, 34
	goes(t, "taken, then given, on", s, syncDone(unlock, true, bothAt(1, 3, 0)), want, true)
	want = talkedSync()
	want.Joins, want.Clocks[0], want.Vers[0], want.Things[2].Got = 13, []int64{9, 9, 9}, 5, []int64{6, 6}
	want.Things[3] = impl.Thing{Space: 7, Clock: []int64{9, 9, 9}, Ver: 1, Sent: []int64{5}}
	goes(t, "all is taken ahead of what is given", s, syncDone(impl.Event{Kind: impl.EvSwap}, false, givesAt(7, 0, 0), takesAt(3, 3, 5)), want, true)
	want = talkedSync()
	want.Clocks, want.Vers = append(want.Clocks, []int64{3, 4, 1, 1}), append(want.Vers, 1)
	goes(t, "started, whatever the Obj", s, syncDone(impl.Event{Kind: impl.EvGo, Gor: 1, Obj: 9}, false), want, true)
	want.Clocks[1], want.Vers[1], want.Incs = []int64{3, 5, 1}, 8, 34
	goes(t, "started, on", s, syncDone(impl.Event{Kind: impl.EvGo, Gor: 1, Obj: 3}, true), want, true)
	want = talkedSync()
	want.Meets, want.Clocks[0], want.Clocks[2], want.Vers[0], want.Vers[2] = 45, []int64{5, 2, 6}, []int64{5, 2, 6}, 5, 3
	meet := impl.Event{Kind: impl.EvMeet, Gor: 2, Obj: 3}
	goes(t, "met", s, syncDone(meet, false), want, true)
	want.Clocks[0], want.Clocks[2], want.Vers[0], want.Vers[2], want.Incs = []int64{6, 2, 6}, []int64{5, 2, 7}, 6, 4, 35
	goes(t, "met, on", s, syncDone(meet, true), want, true)
}

// A start or a meeting that a caller lets give: a start ticks once for both, a meeting once for each of the two and once more for what was given.
func TestSyncDoneOfStartsAndMeetingsThatGive(t *testing.T) {
	s := talkedSync()
	want := talkedSync()
	want.Clocks, want.Vers = append(want.Clocks, []int64{5, 2, 0, 1}), append(want.Vers, 1)
	want.Joins, want.Things[3] = 12, impl.Thing{Space: 7, Clock: []int64{5, 2}, Ver: 1, Sent: []int64{4}}
	want.Clocks[0], want.Vers[0], want.Incs = []int64{6, 2}, 5, 34
	goes(t, "a start", s, syncDone(impl.Event{Kind: impl.EvGo, Obj: 3}, true, givesAt(7, 0, 0)), want, true)
	want = talkedSync()
	want.Joins, want.Things[3] = 12, impl.Thing{Space: 7, Clock: []int64{5, 2}, Ver: 1, Sent: []int64{4}}
	want.Meets, want.Incs, want.Clocks[0], want.Clocks[2], want.Vers[0], want.Vers[2] = 45, 36, []int64{7, 2, 6}, []int64{5, 2, 7}, 7, 4
	goes(t, "a meeting", s, syncDone(impl.Event{Kind: impl.EvMeet, With: 2}, true, givesAt(7, 0, 0)), want, true)
	want = talkedSync()
	want.Joins, want.Things[3] = 12, impl.Thing{Space: 7, Clock: []int64{5, 2}, Ver: 1, Sent: []int64{4}}
	want.Meets, want.Clocks[0], want.Clocks[2], want.Vers[0], want.Vers[2] = 45, []int64{5, 2, 6}, []int64{5, 2, 6}, 5, 3
	goes(t, "a meeting, not on", s, syncDone(impl.Event{Kind: impl.EvMeet, With: 2}, false, givesAt(7, 0, 0)), want, true)
}

// Where one of these is refused, all is as it was at the beginning.
func TestSyncDoneThatIsRefused(t *testing.T) {
	s := talkedSync()
	store := impl.Event{Kind: impl.EvStore, Gor: 1}
	for _, on := range []bool{false, true} {
		for at := range 4 {
			for _, wrong := range []impl.Touch{takesAt(0, 0, 0), givesAt(8, 0, 0), bothAt(1, 16, 0), takesAt(1, -1, 0), givesAt(3, 3, 8), bothAt(3, 3, -1)} {
				list := slices.Insert([]impl.Touch{bothAt(1, 3, 0), givesAt(2, 2, 2), takesAt(3, 3, 5)}, at, wrong)
				refusedStep(t, "a wrong touch", s, syncDone(store, on, list...))
			}
		}
		for _, wrong := range []impl.Touch{touchAt(0, 0, 0), touchAt(8, 0, 0), touchAt(-9, 99, 9), touchAt(1, 16, 8)} {
			if _, is := stepsAsPlain(t, "a wrong touch of which nothing is done", s, syncDone(store, on, wrong, bothAt(1, 3, 0), wrong)); !is {
				t.Fatalf("%+v is refused", wrong)
			}
		}
		for _, gor := range []int64{3, 4, 15} {
			refusedStep(t, "no Gor that takes", s, syncDone(impl.Event{Kind: impl.EvLoad, Gor: gor}, on, takesAt(2, 2, 2)))
			refusedStep(t, "no Gor that gives", s, syncDone(impl.Event{Kind: impl.EvLoad, Gor: gor}, on, givesAt(2, 2, 2)))
			refusedStep(t, "no Gor that starts", s, syncDone(impl.Event{Kind: impl.EvGo, Gor: gor, Obj: 3}, on))
			refusedStep(t, "no Gor that meets", s, syncDone(impl.Event{Kind: impl.EvMeet, Gor: gor}, on))
			refusedStep(t, "no With", s, syncDone(impl.Event{Kind: impl.EvMeet, With: gor}, on))
			refusedStep(t, "no With, behind what was given", s, syncDone(impl.Event{Kind: impl.EvMeet, With: gor}, on, bothAt(1, 3, 0)))
		}
		for gor := range int64(3) {
			refusedStep(t, "alone", s, syncDone(impl.Event{Kind: impl.EvMeet, Gor: gor, With: gor}, on, givesAt(2, 2, 2)))
		}
		for gor := range int64(16) {
			refusedStep(t, "MaxGors", loneSync(16), syncDone(impl.Event{Kind: impl.EvGo, Gor: gor, Obj: 3}, on, givesAt(2, 2, 2)))
		}
	}
}

// What passes a limit is refused at the last step as at the first one.
func TestSyncDoneAtTheLimits(t *testing.T) {
	done := func(what string, put func(s *impl.Sync), step syncStep, want bool) {
		t.Helper()
		s := talkedSync()
		put(&s)
		if _, is := stepsAsPlain(t, what, s, step); is != want {
			t.Fatalf("%s: %v", what, is)
		}
	}
	store := impl.Event{Kind: impl.EvStore, Gor: 1}
	meet := impl.Event{Kind: impl.EvMeet, Gor: 1, With: 2}
	start := impl.Event{Kind: impl.EvGo, Gor: 1, Obj: 3}
	for _, on := range []bool{false, true} {
		done("a tick of who gives", func(s *impl.Sync) { s.Clocks[1][1] = topTick }, syncDone(store, on, givesAt(1, 3, 0)), !on)
		done("a tick of who takes", func(s *impl.Sync) { s.Clocks[1][1] = topTick }, syncDone(store, on, takesAt(1, 3, 0)), true)
		done("a tick of who starts", func(s *impl.Sync) { s.Clocks[1][1] = topTick }, syncDone(start, on), !on)
		done("a tick of who meets", func(s *impl.Sync) { s.Clocks[1][1] = topTick }, syncDone(meet, on), !on)
		done("a tick of who is met", func(s *impl.Sync) { s.Clocks[2][2] = topTick }, syncDone(meet, on), !on)
		done("a tick of another one", func(s *impl.Sync) { s.Clocks[0][0] = topTick }, syncDone(meet, on), true)
		done("a version of who gives", func(s *impl.Sync) { s.Vers[1] = most }, syncDone(store, on, givesAt(1, 3, 0)), !on)
		done("a version of who starts", func(s *impl.Sync) { s.Vers[1] = most }, syncDone(start, on), !on)
		done("a version of who meets, one less", func(s *impl.Sync) { s.Vers[1] = most - 1 }, syncDone(meet, on), !on)
		done("a version of who is met, one less", func(s *impl.Sync) { s.Vers[2] = most - 1 }, syncDone(meet, on), !on)
		done("a version of who meets, two less", func(s *impl.Sync) { s.Vers[1] = most - 2 }, syncDone(meet, on), true)
		done("Incs of who gives", func(s *impl.Sync) { s.Incs = most }, syncDone(store, on, givesAt(1, 3, 0)), !on)
		done("Incs of who meets, one less", func(s *impl.Sync) { s.Incs = most - 1 }, syncDone(meet, on), !on)
		done("Incs of who meets, two less", func(s *impl.Sync) { s.Incs = most - 2 }, syncDone(meet, on), true)
		done("Incs of who starts, one less", func(s *impl.Sync) { s.Incs = most - 1 }, syncDone(start, on), true)
		done("Joins of who takes and gives, one less", func(s *impl.Sync) { s.Joins = most - 1 }, syncDone(store, on, bothAt(1, 3, 0)), false)
		done("Joins of who takes and gives, two less", func(s *impl.Sync) { s.Joins = most - 2 }, syncDone(store, on, bothAt(1, 3, 0)), true)
		done("Skips of who takes twice, one less", func(s *impl.Sync) { s.Skips = most - 1 }, syncDone(store, on, takesAt(7, 0, 0), takesAt(7, 0, 0)), false)
		done("Meets", func(s *impl.Sync) { s.Meets = most }, syncDone(meet, on), false)
		done("Meets of a start", func(s *impl.Sync) { s.Meets = most }, syncDone(start, on), true)
		done("one thing too many", func(s *impl.Sync) { s.Things = bareThings(256, false) }, syncDone(store, on, givesAt(1, 0, 0), givesAt(7, 7, 7)), false)
		done("two things, room for one", func(s *impl.Sync) { s.Things = bareThings(255, false) }, syncDone(store, on, givesAt(7, 7, 6), givesAt(7, 7, 7)), false)
		done("two things, room for two", func(s *impl.Sync) { s.Things = bareThings(254, false) }, syncDone(store, on, givesAt(7, 7, 6), givesAt(7, 7, 7)), true)
	}
	all := []impl.Touch{}
	for _, key := range everyThing() {
		all = append(all, givesAt(key[0], key[1], key[2]))
	}
	stepsAsPlain(t, "MaxThings at once", impl.NewSync(), syncDone(impl.Event{Kind: impl.EvStore}, true, all[640:]...))
	refusedStep(t, "one more at once", impl.NewSync(), syncDone(impl.Event{Kind: impl.EvStore}, true, all[639:]...))
	refusedStep(t, "all at once", impl.NewSync(), syncDone(impl.Event{Kind: impl.EvStore}, true, all...))
}

// Where nothing is done of Gor, With and the touches, any will do; an event that is not EventOk is refused all the same.
func TestSyncDoneOfWhatIsNotAsked(t *testing.T) {
	quiet := []impl.Touch{touchAt(99, -1, 1<<40), touchAt(0, 0, 0)}
	for _, s := range []impl.Sync{impl.NewSync(), talkedSync()} {
		for _, e := range append(rightEvents(), eventsBeside()...) {
			for _, on := range []bool{false, true} {
				if e.Kind != 1 && e.Kind != 9 {
					next, is := impl.SyncDone(s, e, quiet, on)
					if !is || !sameSync(next, s) {
						t.Fatalf("%+v: %+v and %v", e, next, is)
					}
					continue
				}
				stepsAsPlain(t, "it is asked", s, syncDone(e, on, quiet...))
			}
		}
		goes(t, "no such Gor", s, syncDone(impl.Event{Kind: impl.EvRead, Gor: 15, Size: 1}, true), s, true)
		goes(t, "no such Gor", s, syncDone(impl.Event{Kind: impl.EvLock, Gor: 3, Obj: 1}, false, quiet...), s, true)
	}
}

func TestSyncDoneOfWrongEvents(t *testing.T) {
	s := talkedSync()
	for n, e := range append(wrongEvents(), impl.Event{}) {
		on := n%2 == 0
		refusedStep(t, "a wrong event", s, syncDone(e, on))
		if n%10 == 0 {
			refusedStep(t, "a wrong event", s, syncDone(e, !on, bothAt(1, 3, 0)))
			refusedStep(t, "a wrong event", s, syncDone(e, !on, takesAt(8, 3, 0)))
		}
	}
}

// A saying is what the goroutines of an event had of themselves ahead of it, and what they knew of all behind it.
type saying struct {
	own   map[int64]int64
	knows map[int64][]int64
}

// sayings go along a legal trace; on tells at which events there may be a tick.
func sayings(t *testing.T, what string, list []impl.Event, on func(j int) bool) (all []saying) {
	t.Helper()
	s := impl.NewSync()
	for j, e := range list {
		here := saying{map[int64]int64{}, map[int64][]int64{}}
		for _, g := range gorsByFields(e) {
			here.own[g] = impl.TickOf(s.Clocks[g], g)
		}
		next, is := impl.SyncDone(s, e, touchesOfDone(list, int64(j)), on(j))
		if !is || !isRightSync(next) {
			t.Fatalf("%s: %+v of %+v is refused in %+v", what, e, list, s)
		}
		for _, g := range gorsByFields(e) {
			here.knows[g] = slices.Clone(next.Clocks[g])
		}
		all = append(all, here)
		s = next
	}
	return all
}

// knownOf asks for each of a's goroutines whether what it had of itself is known to each of b's: always, and ever?
func knownOf(a saying, b saying) (all bool, some bool) {
	all = true
	for g, tick := range a.own {
		for _, clock := range b.knows {
			known := impl.TickOf(clock, g) >= tick
			all, some = all && known, some || known
		}
	}
	return all, some
}

// promiseOfKnowing asks for promise 12 at every pair, and, where there are fewer ticks, whether who is ahead is known all the same.
func promiseOfKnowing(t *testing.T, what string, list []impl.Event) (ahead int, apart int) {
	t.Helper()
	p := plainOrderOf(list)
	if len(p.edges) != len(list) {
		t.Fatalf("%s: %+v is not legal", what, list)
	}
	ticking := sayings(t, what, list, func(int) bool { return true })
	silent := sayings(t, what, list, func(int) bool { return false })
	dimmed := sayings(t, what, list, func(j int) bool { return j/7%2 == 0 })
	for j := range list {
		for i := range j {
			isAhead := p.ordered(int64(i), int64(j))
			all, some := knownOf(ticking[i], ticking[j])
			if all != isAhead || some != isAhead {
				t.Fatalf("%s: in %+v, %d is ahead of %d: %v; but what it knew of itself, %v, is known to %v: %v and %v", what, list, i, j, isAhead, ticking[i].own, ticking[j].knows, all, some)
			}
			off, _ := knownOf(silent[i], silent[j])
			dim, _ := knownOf(dimmed[i], dimmed[j])
			if isAhead && !(off && dim) {
				t.Fatalf("%s: in %+v, %d is ahead of %d, and not known there", what, list, i, j)
			}
			if !gorsMeet(list[i], list[j]) {
				if _, some := knownOf(ticking[j], ticking[i]); some {
					t.Fatalf("%s: in %+v, %d is known at %d, ahead of it", what, list, j, i)
				}
			}
			if isAhead {
				ahead++
			} else {
				apart++
			}
		}
	}
	return ahead, apart
}

// Promise 12, along a story and wherever one thing may hand on, or not.
func TestKnowingOfHandings(t *testing.T) {
	promiseOfKnowing(t, "a story", storyOfEveryKind())
	for _, h := range append(lockHandings(), otherHandings()...) {
		list, i, j := h.trace()
		promiseOfKnowing(t, h.what, list)
		all := sayings(t, h.what, list, func(int) bool { return true })
		if known, _ := knownOf(all[i], all[j]); known != h.want {
			t.Fatalf("%s: in %+v, %d is known at %d: %v", h.what, list, i, j, known)
		}
	}
}

// Promise 12, along thrown traces.
func TestKnowingIsTheOrder(t *testing.T) {
	ahead, apart := 0, 0
	for walk := range int64(150) {
		d := dice(12300 + walk)
		list := legalTrace(&d, int(10+d.below(90)), 1+d.below(16), 1+d.below(6))
		a, b := promiseOfKnowing(t, fmt.Sprint("walk ", walk), list)
		ahead, apart = ahead+a, apart+b
		locked, _ := lockedTrace(&d, 4, 3)
		promiseOfKnowing(t, fmt.Sprint("locked ", walk), locked[:20+d.below(90)])
	}
	if ahead < 10000 || apart < 10000 {
		t.Fatal(ahead, apart)
	}
	d := dice(12999)
	promiseOfKnowing(t, "long", legalTrace(&d, maxTrace, 9, 3))
	promiseOfKnowing(t, "handed on", handedOn(maxTrace))
}

// Along whole traces each step is as the plain one makes it, with the touches that the program tells.
func TestSyncDoneAlongTraces(t *testing.T) {
	for walk := range int64(12) {
		d := dice(12600 + walk)
		list := legalTrace(&d, 150, 1+d.below(16), 1+d.below(6))
		s := impl.NewSync()
		for j, e := range list {
			next, is := stepsAsPlain(t, fmt.Sprint("walk ", walk), s, syncDone(e, walk%3 != 0 && (walk%3 == 1 || j%20 < 10), impl.TouchesOf(list, int64(j))...))
			if !is {
				t.Fatalf("%+v is refused", e)
			}
			s = next
		}
		if got := int64(len(s.Clocks)); got != byPlainScene(list).scene.Gors {
			t.Fatalf("%d goroutines", got)
		}
	}
}

// Several Syncs in turn: none is moved on by what is asked of another one, nor by what was written to an answer.
func TestSyncsKeepNothing(t *testing.T) {
	d := dice(12900)
	all := []impl.Sync{impl.NewSync(), talkedSync(), loneSync(3), d.thrownSync(5, 8), d.thrownSync(2, 3)}
	for range 1500 {
		k := d.below(int64(len(all)))
		other, _ := impl.SyncDone(all[(k+1)%5], impl.Event{Kind: impl.EvSwap}, []impl.Touch{bothAt(1, 3, 0)}, true)
		numbersApart(t, "another one", numbersOf(other)...)
		all[k], _ = stepsAsPlain(t, "in turn", all[k], d.thrownStep(all[k]))
	}
}

// What stands in the spare room is no goroutine, no version, no thing and no touch.
func TestStepsAndTheSpareRoom(t *testing.T) {
	s := impl.NewSync()
	roomy := impl.Sync{Clocks: append(s.Clocks, []int64{1, 1})[:1], Vers: append(s.Vers, 1)[:1], Things: []impl.Thing{spareThing}[:0]}
	if next, is := impl.Bumped(roomy, 1); is || !sameSync(next, s) {
		t.Fatalf("%+v", next)
	}
	if next, is := impl.Took(roomy, 0, touchAt(7, 15, 7)); !is || !sameSync(next, s) {
		t.Fatalf("%+v", next)
	}
	next, is := impl.SyncDone(roomy, impl.Event{Kind: impl.EvStore}, []impl.Touch{givesAt(2, 2, 2)}[:0], true)
	if !is || !sameSync(next, s) || !slices.Equal(roomy.Vers[:2], []int64{1, 1}) || !sameThing(roomy.Things[:1][0], spareThing) {
		t.Fatalf("%+v", next)
	}
	next, is = impl.Gave(roomy, 0, touchAt(7, 15, 6))
	if !is || len(next.Things) != 1 || !sameThing(roomy.Things[:1][0], spareThing) {
		t.Fatalf("%+v", next)
	}
	next, is = impl.Forked(roomy, 0)
	if !is || !slices.Equal(roomy.Clocks[:2][1], []int64{1, 1}) || !slices.Equal(next.Clocks[1], []int64{1, 1}) {
		t.Fatalf("%+v", next)
	}
	next.Clocks[1][0] = 9
	if !slices.Equal(roomy.Clocks[:2][1], []int64{1, 1}) {
		t.Fatalf("%+v", roomy)
	}
}
