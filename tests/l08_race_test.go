package tests

import (
	"fmt"
	"slices"
	"testing"

	"loop.example/g00720/impl"
)

// A plainRaces tells of the races of a trace's legal part without the program, each asked for alone.
type plainRaces struct {
	list  []impl.Event
	order plainOrder
}

func plainRacesOf(list []impl.Event) plainRaces {
	if len(list) > maxTrace {
		return plainRaces{}
	}
	return plainRaces{list[:byPlainScene(list).size], plainOrderOf(list)}
}

func isCovered(e impl.Event, byt int64) bool {
	return e.Kind >= 20 && e.Kind <= 22 && e.Lo <= byt && byt <= e.Lo+e.Size-1
}

// lasting are the bytes that both cover and that last from one to the other.
func (p plainRaces) lasting(i int64, j int64) []int64 {
	var all []int64
	for byt := p.list[i].Lo; byt < p.list[i].Lo+p.list[i].Size; byt++ {
		isOver := func(e impl.Event) bool { return e.Kind == 22 && isCovered(e, byt) }
		if isCovered(p.list[j], byt) && !slices.ContainsFunc(p.list[i+1:j], isOver) {
			all = append(all, byt)
		}
	}
	return all
}

func (p plainRaces) isRace(i int64, j int64) bool {
	if i < 0 || i >= j || j >= int64(len(p.list)) {
		return false
	}
	return clashByBytes(p.list[i], p.list[j]) && !p.order.ordered(i, j) && len(p.lasting(i, j)) > 0
}

func (p plainRaces) isShort(looked []bool, i int64, j int64) bool {
	if !p.isRace(i, j) || i >= int64(len(looked)) || !looked[i] {
		return false
	}
	isHidden := func(byt int64) bool {
		for k := i + 1; k < j; k++ {
			e := p.list[k]
			again := e.Kind == 20 && p.list[i].Kind == 20 && e.Gor == p.list[i].Gor && k < int64(len(looked)) && looked[k]
			if isCovered(e, byt) && (e.Kind == 21 || again) {
				return true
			}
		}
		return false
	}
	return slices.ContainsFunc(p.lasting(i, j), func(byt int64) bool { return !isHidden(byt) })
}

func (p plainRaces) pairs(isOne func(i int64, j int64) bool) []impl.Pair {
	var all []impl.Pair
	for j := range int64(len(p.list)) {
		for i := range j {
			if isOne(i, j) {
				all = append(all, impl.Pair{I: i, J: j})
			}
		}
	}
	return all
}

func (p plainRaces) races() []impl.Pair { return p.pairs(p.isRace) }

func (p plainRaces) shorts(looked []bool) []impl.Pair {
	return p.pairs(func(i int64, j int64) bool { return p.isShort(looked, i, j) })
}

// races fails where just these are not the races of a list.
func races(t *testing.T, what string, list []impl.Event, want ...impl.Pair) {
	t.Helper()
	if got := impl.RacesIn(list); !slices.Equal(got, want) {
		t.Fatalf("%s: the races in %+v are %v, not %v", what, list, got, want)
	}
}

// shorts fails where just these are not the short races of a list.
func shorts(t *testing.T, what string, list []impl.Event, looked []bool, want ...impl.Pair) {
	t.Helper()
	if got := impl.ShortIn(list, looked); !slices.Equal(got, want) {
		t.Fatalf("%s: the short races in %+v, looked at %v, are %v, not %v", what, list, looked, got, want)
	}
}

func isRace(t *testing.T, what string, list []impl.Event, i int64, j int64, want bool) {
	t.Helper()
	if got := impl.IsRace(list, i, j); got != want {
		t.Fatalf("%s: %d and %d of %+v are a race: %v", what, i, j, list, got)
	}
}

func isShort(t *testing.T, what string, list []impl.Event, looked []bool, i int64, j int64, want bool) {
	t.Helper()
	if got := impl.IsShort(list, looked, i, j); got != want {
		t.Fatalf("%s: %d and %d of %+v, looked at %v, are a short race: %v", what, i, j, list, looked, got)
	}
}

func lookedAtAll(list []impl.Event) []bool { return slices.Repeat([]bool{true}, len(list)) }

// lookedBut is true at all places of a list but these.
func lookedBut(list []impl.Event, out ...int) []bool {
	looked := lookedAtAll(list)
	for _, i := range out {
		looked[i] = false
	}
	return looked
}

// racesAsPlain holds each pair of places, also such as are none, against the plain model, which it hands out.
func racesAsPlain(t *testing.T, what string, list []impl.Event) plainRaces {
	t.Helper()
	p := plainRacesOf(list)
	given := padded(list, spareEvent)
	races(t, what, given, p.races()...)
	for i := int64(-2); i <= int64(len(list))+1; i++ {
		for j := int64(-2); j <= int64(len(list))+1; j++ {
			isRace(t, what, given, i, j, p.isRace(i, j))
		}
	}
	staysPadded(t, what, given, list, spareEvent)
	return p
}

// shortsAsPlain does the same for what was looked at; the room behind that is true, so that a look there is seen.
func shortsAsPlain(t *testing.T, what string, p plainRaces, list []impl.Event, looked []bool) {
	t.Helper()
	given, seen := padded(list, spareEvent), padded(looked, true)
	shorts(t, what, given, seen, p.shorts(looked)...)
	for i := int64(-2); i <= int64(len(list))+1; i++ {
		for j := int64(-2); j <= int64(len(list))+1; j++ {
			isShort(t, what, given, seen, i, j, p.isShort(looked, i, j))
		}
	}
	staysPadded(t, what, given, list, spareEvent)
	staysPadded(t, what, seen, looked, true)
}

// promiseOfRaces: a race is not ordered, a short race is a race, and where there is a race there is a short one, if all is looked at.
func promiseOfRaces(t *testing.T, what string, list []impl.Event, looked []bool) {
	t.Helper()
	all := impl.RacesIn(list)
	for _, p := range all {
		if impl.Ordered(list, p.I, p.J) || impl.Ordered(list, p.J, p.I) {
			t.Fatalf("%s: the race %v is ordered in %+v", what, p, list)
		}
		if p.I >= p.J || p.J >= impl.LegalLen(list) || !impl.Clashing(list[p.I], list[p.J]) {
			t.Fatalf("%s: the race %v is none in %+v", what, p, list)
		}
	}
	for _, p := range impl.ShortIn(list, looked) {
		if !slices.Contains(all, p) || !impl.IsRace(list, p.I, p.J) || !looked[p.I] {
			t.Fatalf("%s: the short race %v is none in %+v", what, p, list)
		}
	}
	if short := impl.ShortIn(list, lookedAtAll(list)); (len(short) > 0) != (len(all) > 0) {
		t.Fatalf("%s: the races are %v, the short ones %v in %+v", what, all, short, list)
	}
	shorts(t, what, list, make([]bool, len(list)))
	shorts(t, what, list, nil)
}

// storyOfRaces is told byte by byte in the tests behind it.
func storyOfRaces() []impl.Event {
	return []impl.Event{
		{Kind: impl.EvGo, Obj: 1},
		{Kind: impl.EvGo, Obj: 2},
		access(impl.EvWrite, 1, 10, 4),
		access(impl.EvRead, 2, 13, 2),
		access(impl.EvRead, 2, 12, 2),
		{Kind: impl.EvFresh, Lo: 12, Size: 1},
		access(impl.EvWrite, 0, 13, 1),
		access(impl.EvRead, 1, 12, 3),
		{Kind: impl.EvStore, Gor: 1, Obj: 5},
		{Kind: impl.EvLoad, Gor: 2, Obj: 5},
		access(impl.EvWrite, 2, 10, 8),
		{Kind: impl.EvFresh, Gor: 1, Lo: 0, Size: 64},
		access(impl.EvWrite, 0, 10, 8),
	}
}

func TestRacesOfAStory(t *testing.T) {
	list := storyOfRaces()
	pair := func(i int64, j int64) impl.Pair { return impl.Pair{I: i, J: j} }
	races(t, "a story", list, pair(2, 3), pair(2, 4), pair(2, 6), pair(3, 6), pair(4, 6), pair(6, 7), pair(6, 10))
	shorts(t, "all looked at", list, lookedAtAll(list), pair(2, 3), pair(2, 4), pair(2, 6), pair(4, 6), pair(6, 7), pair(6, 10))
	shorts(t, "the later read not looked at", list, lookedBut(list, 4), pair(2, 3), pair(2, 4), pair(2, 6), pair(3, 6), pair(6, 7), pair(6, 10))
	shorts(t, "the first write not looked at", list, lookedBut(list, 2), pair(4, 6), pair(6, 7), pair(6, 10))
	shorts(t, "the second write not looked at", list, lookedBut(list, 6), pair(2, 3), pair(2, 4), pair(2, 6), pair(4, 6))
	p := racesAsPlain(t, "a story", list)
	shortsAsPlain(t, "a story", p, list, lookedAtAll(list))
	promiseOfRaces(t, "a story", list, lookedAtAll(list))
}

// A meeting is two accesses of goroutines 1 and 2, which nothing orders, and what lies around and between them.
type meeting struct {
	what    string
	ahead   []impl.Event
	first   impl.Event
	between []impl.Event
	second  impl.Event
	behind  []impl.Event
	race    bool
	short   bool
}

// trace lays it out: two starts, what is ahead, the first, what is between, the second, what is behind.
func (m meeting) trace() (list []impl.Event, i int64, j int64) {
	list = append([]impl.Event{{Kind: impl.EvGo, Obj: 1}, {Kind: impl.EvGo, Obj: 2}}, m.ahead...)
	i = int64(len(list))
	list = append(append(list, m.first), m.between...)
	j = int64(len(list))
	return append(append(list, m.second), m.behind...), i, j
}

func fresh(gor int64, lo int64, size int64) impl.Event {
	return impl.Event{Kind: impl.EvFresh, Gor: gor, Lo: lo, Size: size}
}

func events(all ...impl.Event) []impl.Event { return all }

func sharedMeetings() []meeting {
	r := func(gor int64, lo int64, size int64) impl.Event { return access(impl.EvRead, gor, lo, size) }
	w := func(gor int64, lo int64, size int64) impl.Event { return access(impl.EvWrite, gor, lo, size) }
	return []meeting{
		{what: "two writes", first: w(1, 10, 4), second: w(2, 10, 4), race: true, short: true},
		{what: "a write and a read", first: w(1, 10, 4), second: r(2, 10, 4), race: true, short: true},
		{what: "a read and a write", first: r(1, 10, 4), second: w(2, 10, 4), race: true, short: true},
		{what: "two reads", first: r(1, 10, 4), second: r(2, 10, 4)},
		{what: "one goroutine", first: w(1, 10, 4), second: w(1, 10, 4)},
		{what: "the last byte", first: w(1, 10, 4), second: r(2, 13, 8), race: true, short: true},
		{what: "the first byte", first: w(1, 10, 8), second: r(2, 3, 8), race: true, short: true},
		{what: "side by side", first: w(1, 10, 4), second: w(2, 14, 8)},
		{what: "side by side, ahead", first: w(1, 10, 4), second: w(2, 2, 8)},
		{what: "one inside the other", first: w(1, 10, 8), second: w(2, 12, 1), race: true, short: true},
		{what: "at byte 0", first: w(1, 0, 1), second: w(2, 0, 8), race: true, short: true},
		{what: "at the last Lo", first: w(1, 65535, 8), second: w(2, 65535, 1), race: true, short: true},
		{what: "behind the last Lo, new but for one", first: w(1, 65535, 8), between: events(fresh(0, 65528, 14)), second: w(2, 65535, 8), race: true, short: true},
		{what: "behind the last Lo, all new", first: w(1, 65535, 8), between: events(fresh(0, 65528, 15)), second: w(2, 65535, 8)},
		{what: "a fresh one first", first: fresh(1, 10, 4), second: w(2, 10, 4)},
		{what: "a fresh one last", first: w(1, 10, 4), second: fresh(2, 10, 4)},
		{what: "fresh ones", first: fresh(1, 10, 4), second: fresh(2, 10, 4)},
		{what: "atomic ones", first: impl.Event{Kind: impl.EvStore, Gor: 1}, second: impl.Event{Kind: impl.EvStore, Gor: 2}},
		{what: "a write and an atomic one", first: w(1, 0, 8), second: impl.Event{Kind: impl.EvStore, Gor: 2}},
		{what: "a write and a channel for eight", first: w(1, 0, 8), second: impl.Event{Kind: impl.EvMake, Gor: 2, Size: 8}},
		{what: "a channel for eight between", first: w(1, 0, 8), between: events(impl.Event{Kind: impl.EvMake, Gor: 1, Size: 8}, impl.Event{Kind: impl.EvAdd, Gor: 1, Size: 9}), second: w(2, 0, 8), race: true, short: true},
		{what: "handed on", first: w(1, 10, 4), between: events(impl.Event{Kind: impl.EvStore, Gor: 1}, impl.Event{Kind: impl.EvLoad, Gor: 2}), second: w(2, 10, 4)},
		{what: "handed on too early", ahead: events(impl.Event{Kind: impl.EvStore, Gor: 1}), first: w(1, 10, 4), between: events(impl.Event{Kind: impl.EvLoad, Gor: 2}), second: w(2, 10, 4), race: true, short: true},
		{what: "handed on too late", first: w(1, 10, 4), between: events(impl.Event{Kind: impl.EvStore, Gor: 1}), second: w(2, 10, 4), behind: events(impl.Event{Kind: impl.EvLoad, Gor: 2}), race: true, short: true},
		{what: "handed on by another one", first: w(1, 10, 4), between: events(impl.Event{Kind: impl.EvStore}, impl.Event{Kind: impl.EvLoad, Gor: 2}), second: w(2, 10, 4), race: true, short: true},
	}
}

func freshMeetings() []meeting {
	r := func(gor int64, lo int64, size int64) impl.Event { return access(impl.EvRead, gor, lo, size) }
	w := func(gor int64, lo int64, size int64) impl.Event { return access(impl.EvWrite, gor, lo, size) }
	all := []meeting{
		{what: "all new", between: events(fresh(0, 12, 2))},
		{what: "all new, and more", between: events(fresh(0, 0, 64))},
		{what: "all of the first one's new", between: events(fresh(0, 10, 4))},
		{what: "all of the second one's new", between: events(fresh(0, 12, 6))},
		{what: "the first shared byte new", between: events(fresh(0, 12, 1)), race: true, short: true},
		{what: "the last shared byte new", between: events(fresh(0, 13, 1)), race: true, short: true},
		{what: "new up to the first shared byte", between: events(fresh(0, 0, 13)), race: true, short: true},
		{what: "new from the last shared byte on", between: events(fresh(0, 13, 64)), race: true, short: true},
		{what: "new ahead of what is shared", between: events(fresh(0, 0, 12)), race: true, short: true},
		{what: "new behind what is shared", between: events(fresh(0, 14, 64)), race: true, short: true},
		{what: "new on both sides", between: events(fresh(0, 0, 12), fresh(0, 14, 4)), race: true, short: true},
		{what: "new together", between: events(fresh(0, 12, 1), fresh(0, 13, 1))},
		{what: "new together, the other way round", between: events(fresh(0, 13, 9), fresh(0, 3, 10))},
		{what: "new twice, one byte not", between: events(fresh(0, 12, 1), fresh(0, 11, 2), fresh(0, 14, 1)), race: true, short: true},
		{what: "new ahead", ahead: events(fresh(0, 0, 64), fresh(1, 0, 64), fresh(2, 0, 64)), race: true, short: true},
		{what: "new behind", behind: events(fresh(0, 0, 64), fresh(1, 0, 64), fresh(2, 0, 64)), race: true, short: true},
		{what: "new ahead and behind", ahead: events(fresh(0, 12, 2)), behind: events(fresh(0, 12, 2)), race: true, short: true},
		{what: "new ahead in one byte, between in the other", ahead: events(fresh(0, 12, 1)), between: events(fresh(0, 13, 1)), race: true, short: true},
		{what: "new, then written again", between: events(fresh(0, 12, 2), w(1, 12, 2))},
		{what: "one byte new, then written again", between: events(fresh(0, 12, 1), w(1, 12, 1)), race: true, short: true},
		{what: "one byte new, the other one written", between: events(fresh(0, 12, 1), w(0, 13, 1)), race: true},
		{what: "one byte written, the other one new", between: events(w(0, 12, 1), fresh(0, 13, 1)), race: true},
		{what: "far off new", between: events(fresh(0, 1000, 64)), race: true, short: true},
	}
	for i := range all {
		all[i].first, all[i].second = w(1, 10, 4), r(2, 12, 6)
	}
	return all
}

func writtenMeetings() []meeting {
	r := func(gor int64, lo int64, size int64) impl.Event { return access(impl.EvRead, gor, lo, size) }
	w := func(gor int64, lo int64, size int64) impl.Event { return access(impl.EvWrite, gor, lo, size) }
	all := []meeting{
		{what: "all written", between: events(w(0, 12, 2))},
		{what: "all written, and more", between: events(w(0, 8, 8))},
		{what: "all written by the first", between: events(w(1, 12, 2))},
		{what: "all written by the second", between: events(w(2, 12, 2))},
		{what: "all written by each", between: events(w(0, 12, 2), w(1, 12, 2), w(2, 12, 2))},
		{what: "the first byte written", between: events(w(0, 12, 1)), short: true},
		{what: "the last byte written", between: events(w(0, 13, 1)), short: true},
		{what: "written up to the first byte", between: events(w(1, 5, 8)), short: true},
		{what: "written from the last byte on", between: events(w(2, 13, 8)), short: true},
		{what: "written ahead of what is shared", between: events(w(0, 4, 8)), short: true},
		{what: "written behind what is shared", between: events(w(0, 14, 8)), short: true},
		{what: "written together", between: events(w(1, 12, 1), w(2, 13, 1))},
		{what: "written together, by one", between: events(w(1, 13, 8), w(1, 5, 8))},
		{what: "written ahead and behind", ahead: events(w(0, 12, 2)), behind: events(w(0, 12, 2)), short: true},
		{what: "read by the second", between: events(r(2, 12, 2)), short: true},
		{what: "read by another one", between: events(r(0, 12, 2)), short: true},
		{what: "written in one byte, read in the other by another one", between: events(w(0, 12, 1), r(0, 13, 1)), short: true},
		{what: "one byte new", between: events(fresh(1, 12, 1)), short: true},
		{what: "one byte new, then written", between: events(fresh(0, 13, 1), w(0, 13, 1)), short: true},
		{what: "one byte written, then new", between: events(w(0, 13, 1), fresh(0, 13, 1)), short: true},
		{what: "one byte new, the other one written", between: events(fresh(0, 13, 1), w(2, 12, 1))},
		{what: "one byte written, the other one new", between: events(w(1, 12, 1), fresh(2, 13, 1))},
	}
	for i := range all {
		all[i].first, all[i].second, all[i].race = r(1, 10, 4), w(2, 12, 6), true
	}
	return all
}

// readMeetings have reads by the first one's goroutine between; they hide its own earlier reads alone.
func readMeetings() []meeting {
	r := func(gor int64, lo int64, size int64) impl.Event { return access(impl.EvRead, gor, lo, size) }
	w := func(gor int64, lo int64, size int64) impl.Event { return access(impl.EvWrite, gor, lo, size) }
	all := []meeting{
		{what: "all read again", between: events(r(1, 12, 2))},
		{what: "all read again, and more", between: events(r(1, 8, 8))},
		{what: "the first byte read again", between: events(r(1, 12, 1)), short: true},
		{what: "the last byte read again", between: events(r(1, 13, 1)), short: true},
		{what: "read again together", between: events(r(1, 12, 1), r(1, 13, 1))},
		{what: "read again ahead of what is shared", between: events(r(1, 4, 8)), short: true},
		{what: "read again behind what is shared", between: events(r(1, 14, 8)), short: true},
		{what: "read again ahead and behind", ahead: events(r(1, 12, 2)), behind: events(r(1, 12, 2)), short: true},
		{what: "one byte read again, the other one by another one", between: events(r(1, 12, 1), r(0, 13, 1)), short: true},
		{what: "one byte read again, the other one by the second", between: events(r(2, 12, 1), r(1, 13, 1)), short: true},
		{what: "one byte read again, the other one written", between: events(r(1, 12, 1), w(0, 13, 1))},
		{what: "one byte read again, the other one new", between: events(r(1, 12, 1), fresh(0, 13, 1))},
		{what: "one byte read again and new", between: events(r(1, 12, 1), fresh(0, 12, 1)), short: true},
	}
	for i := range all {
		all[i].first, all[i].second, all[i].race = r(1, 10, 4), w(2, 12, 6), true
	}
	for _, m := range all[:9] {
		m.what += ", a write first"
		m.first = w(1, 10, 4)
		m.short = true
		all = append(all, m)
	}
	return all
}

func meetings() []meeting {
	return slices.Concat(sharedMeetings(), freshMeetings(), writtenMeetings(), readMeetings())
}

func TestMeetings(t *testing.T) {
	for _, m := range meetings() {
		list, i, j := m.trace()
		if impl.LegalLen(list) != int64(len(list)) {
			t.Fatalf("%s: %+v", m.what, list)
		}
		isRace(t, m.what, list, i, j, m.race)
		isRace(t, m.what+", the other way round", list, j, i, false)
		isRace(t, m.what+", the first with itself", list, i, i, false)
		isRace(t, m.what+", the second with itself", list, j, j, false)
		all := lookedAtAll(list)
		isShort(t, m.what, list, all, i, j, m.short)
		isShort(t, m.what+", the other way round", list, all, j, i, false)
		isShort(t, m.what+", the first with itself", list, all, i, i, false)
		isShort(t, m.what+", the first not looked at", list, lookedBut(list, int(i)), i, j, false)
		isShort(t, m.what+", the second not looked at", list, lookedBut(list, int(j)), i, j, m.short)
		p := racesAsPlain(t, m.what, list)
		shortsAsPlain(t, m.what, p, list, all)
		promiseOfRaces(t, m.what, list, all)
	}
}

// What was not looked at between two: a write hides all the same, a read hides nothing.
func TestShortRacesOverWhatWasNotLookedAt(t *testing.T) {
	for _, m := range meetings() {
		list, i, j := m.trace()
		seen := lookedBut(list)
		writes := false
		for k := i + 1; k < j; k++ {
			seen[k] = false
			writes = writes || list[k].Kind == impl.EvWrite || list[k].Kind == impl.EvFresh
		}
		want := m.race
		if writes {
			want = plainRacesOf(list).isShort(seen, i, j)
		}
		isShort(t, m.what, list, seen, i, j, want)
		shortsAsPlain(t, m.what, plainRacesOf(list), list, seen)
		promiseOfRaces(t, m.what, list, seen)
	}
	for _, m := range writtenMeetings() {
		list, i, j := m.trace()
		seen := make([]bool, len(list))
		seen[i] = true
		isShort(t, m.what+", the first alone looked at", list, seen, i, j, m.short)
	}
	for _, m := range readMeetings() {
		list, i, j := m.trace()
		seen := make([]bool, len(list))
		seen[i] = true
		if !slices.ContainsFunc(m.between, func(e impl.Event) bool { return e.Kind != impl.EvRead }) {
			isShort(t, m.what+", the first alone looked at", list, seen, i, j, true)
		}
	}
}

// Each of what lies between, looked at or not, in every mix.
func TestShortRacesByEveryLook(t *testing.T) {
	for _, m := range meetings() {
		list, i, j := m.trace()
		p := plainRacesOf(list)
		for mix := range 1 << (j - i) {
			seen := lookedBut(list)
			for k := i; k < j; k++ {
				seen[k] = mix>>(k-i)&1 == 1
			}
			isShort(t, m.what, list, seen, i, j, p.isShort(seen, i, j))
			shorts(t, m.what, list, seen, p.shorts(seen)...)
		}
	}
}

// Every stretch of new, written or read bytes between two accesses that share some.
func TestRacesOverEveryStretch(t *testing.T) {
	for _, c := range []struct{ lo, size int64 }{{16, 1}, {16, 4}, {13, 4}, {19, 8}, {9, 8}, {17, 2}} {
		for lo := int64(8); lo < 28; lo++ {
			for size := int64(1); size <= 12; size++ {
				for _, e := range events(fresh(0, lo, size), access(impl.EvWrite, 0, lo, size), access(impl.EvRead, 1, lo, size), access(impl.EvRead, 2, lo, size)) {
					if !impl.EventOk(e) {
						continue
					}
					m := meeting{first: access(impl.EvRead, 1, 16, 4), between: events(e), second: access(impl.EvWrite, 2, c.lo, c.size)}
					list, i, j := m.trace()
					left := false
					for byt := max(16, c.lo); byt < min(20, c.lo+c.size); byt++ {
						left = left || byt < lo || byt >= lo+size
					}
					what := fmt.Sprintf("%+v between 16, 4 and %+v", e, c)
					isRace(t, what, list, i, j, left || e.Kind != impl.EvFresh)
					isShort(t, what, list, lookedAtAll(list), i, j, left || e.Kind == impl.EvRead && e.Gor == 2)
					isShort(t, what, list, lookedBut(list, int(i)+1), i, j, left || e.Kind == impl.EvRead)
				}
			}
		}
	}
}

// Which bytes two accesses share, wherever they lie.
func TestRacesOfEveryOverlap(t *testing.T) {
	for lo := int64(0); lo < 20; lo++ {
		for size := int64(1); size <= 8; size++ {
			for own := int64(1); own <= 8; own++ {
				for _, base := range []int64{0, 65515} {
					m := meeting{first: access(impl.EvWrite, 1, base+9, own), second: access(impl.EvRead, 2, base+lo, size)}
					list, i, j := m.trace()
					want := lo < 9+own && 9 < lo+size
					isRace(t, "overlap", list, i, j, want)
					isShort(t, "overlap", list, lookedAtAll(list), i, j, want)
					races(t, "overlap", list, plainRacesOf(list).races()...)
				}
			}
		}
	}
}

// What orders two events orders two accesses; what does not leaves a race.
func TestRacesOfHandings(t *testing.T) {
	for _, h := range append(lockHandings(), otherHandings()...) {
		list, i, j := h.trace()
		isFresh := func(e impl.Event) bool { return e.Kind == impl.EvFresh }
		isRace(t, h.what, list, i, j, !h.want && !slices.ContainsFunc(list, isFresh))
		isRace(t, h.what+", the other way round", list, j, i, false)
		p := racesAsPlain(t, h.what, list)
		shortsAsPlain(t, h.what, p, list, lookedAtAll(list))
		promiseOfRaces(t, h.what, list, lookedAtAll(list))
	}
}

// What is done under one lock is no race but among those who read; a write beside the lock is one.
func TestRacesUnderLocks(t *testing.T) {
	for walk := range int64(10) {
		d := dice(8000 + walk)
		list, under := lockedTrace(&d, 4, 3)
		for _, a := range under {
			for _, b := range under {
				if a.obj == b.obj && (a.alone || b.alone) {
					isRace(t, fmt.Sprint("walk ", walk), list, a.at, b.at, false)
				}
			}
		}
		p := plainRacesOf(list)
		races(t, fmt.Sprint("walk ", walk), list, p.races()...)
		shorts(t, fmt.Sprint("walk ", walk), list, lookedAtAll(list), p.shorts(lookedAtAll(list))...)
		promiseOfRaces(t, fmt.Sprint("walk ", walk), list, lookedAtAll(list))
	}
}

// racyTrace is a trace of many accesses to few bytes, now and then new ones, and of some that hand on.
func racyTrace(d *dice, size int, gors int64, bytes int64) []impl.Event {
	rich := legalTrace(d, size, gors, 2)
	list := []impl.Event{}
	started := int64(1)
	for _, e := range rich {
		if e.Kind == impl.EvGo {
			started++
		}
		if e.Kind < impl.EvRead {
			list = append(list, e)
		}
		for range d.below(3) {
			kind := impl.EvRead + d.below(2)
			if d.below(8) == 0 {
				kind = impl.EvFresh
			}
			list = append(list, impl.Event{Kind: kind, Gor: d.below(started), Lo: d.below(bytes), Size: 1 + d.below(4)})
		}
	}
	return list[:min(size, len(list))]
}

func (d *dice) looks(size int, often int64) []bool {
	looked := make([]bool, size)
	for i := range looked {
		looked[i] = d.below(8) < often
	}
	return looked
}

// Each pair of thrown traces, by what was looked at in thrown places: seldom, half, often, always.
func TestRacesOfThrownTraces(t *testing.T) {
	found, short := 0, 0
	for walk := range int64(60) {
		d := dice(8100 + walk)
		list := racyTrace(&d, 30, 2+walk%4, 1+walk%9)
		what := fmt.Sprint("walk ", walk)
		p := racesAsPlain(t, what, list)
		found += len(p.races())
		for _, often := range []int64{1, 4, 7, 8} {
			looked := d.looks(len(list), often)
			shortsAsPlain(t, what, p, list, looked)
			promiseOfRaces(t, what, list, looked)
			short += len(p.shorts(looked))
		}
	}
	if found < 500 || short < 500 {
		t.Errorf("%d races, %d short ones", found, short)
	}
}

// RacesIn and ShortIn tell what IsRace and IsShort tell of each pair, rising by J, then by I, each once.
func TestRacesRise(t *testing.T) {
	found, briefly := 0, 0
	for walk := range int64(12) {
		d := dice(8200 + walk)
		list := racyTrace(&d, 60, 4, 6)
		looked := d.looks(len(list), 5)
		var all, short []impl.Pair
		for j := range int64(len(list)) {
			for i := range int64(len(list)) {
				if impl.IsRace(list, i, j) {
					all = append(all, impl.Pair{I: i, J: j})
				}
				if impl.IsShort(list, looked, i, j) {
					short = append(short, impl.Pair{I: i, J: j})
				}
			}
		}
		races(t, "pair by pair", list, all...)
		shorts(t, "pair by pair", list, looked, short...)
		found += len(all)
		briefly += len(short)
	}
	if found < 200 || briefly < 50 {
		t.Errorf("%d races, %d short ones", found, briefly)
	}
}

// Looked at is what is true at a place of looked: what lies behind its end was not, what lies behind the list's end has no say.
func TestShortRacesByLooksOfEverySize(t *testing.T) {
	d := dice(83)
	list := racyTrace(&d, 40, 3, 4)
	p := plainRacesOf(list)
	for size := range len(list) + 12 {
		looked := slices.Repeat([]bool{true}, size)
		want := p.shorts(lookedBut(list)[:min(size, len(list))])
		shorts(t, fmt.Sprint(size, " looks"), list, looked, want...)
		shortsAsPlain(t, fmt.Sprint(size, " looks"), p, list, looked)
		for _, pair := range want {
			if pair.I >= int64(size) {
				t.Fatalf("%v of %d looks", pair, size)
			}
		}
	}
	for what, looked := range map[string][]bool{"nil": nil, "empty": {}, "emptied": lookedAtAll(list)[:0], "long": make([]bool, 1<<16)} {
		shorts(t, what, list, looked)
		shortsAsPlain(t, what, p, list, looked)
	}
	long := slices.Repeat([]bool{true}, 1<<16+3)
	shorts(t, "long", list, long, p.shorts(lookedAtAll(list))...)
	if len(p.shorts(long)) == 0 {
		t.Error("no short race")
	}
}

// A look at an event that is no access hides nothing, and no look at one is needed.
func TestShortRacesLookAtAccessesAlone(t *testing.T) {
	d := dice(84)
	for range 20 {
		list := racyTrace(&d, 40, 4, 4)
		looked := d.looks(len(list), 5)
		want := impl.ShortIn(list, looked)
		for i, e := range list {
			if e.Kind < impl.EvRead || e.Kind == impl.EvFresh {
				looked[i] = !looked[i]
			}
		}
		shorts(t, "others looked at", list, looked, want...)
	}
}

// A write that was not looked at is no first one, but hides who was ahead of it.
func TestShortRacesOfAWriteNotLookedAt(t *testing.T) {
	list := events(
		impl.Event{Kind: impl.EvGo, Obj: 1},
		impl.Event{Kind: impl.EvGo, Obj: 2},
		access(impl.EvWrite, 0, 4, 1),
		access(impl.EvWrite, 1, 4, 1),
		access(impl.EvRead, 2, 4, 1),
		access(impl.EvRead, 2, 4, 1),
		access(impl.EvWrite, 1, 4, 1),
	)
	pair := func(i int64, j int64) impl.Pair { return impl.Pair{I: i, J: j} }
	races(t, "all", list, pair(2, 3), pair(2, 4), pair(3, 4), pair(2, 5), pair(3, 5), pair(2, 6), pair(4, 6), pair(5, 6))
	shorts(t, "all", list, lookedAtAll(list), pair(2, 3), pair(3, 4), pair(3, 5), pair(5, 6))
	shorts(t, "but the second write", list, lookedBut(list, 3), pair(2, 3), pair(5, 6))
	shorts(t, "but the second write and the second read", list, lookedBut(list, 3, 5), pair(2, 3), pair(4, 6))
	shorts(t, "but the first write", list, lookedBut(list, 2), pair(3, 4), pair(3, 5), pair(5, 6))
	shorts(t, "the last one alone", list, lookedBut(list, 0, 1, 2, 3, 4, 5))
}

func TestRacesOfNoEvent(t *testing.T) {
	for what, list := range map[string][]impl.Event{"nil": nil, "empty": {}, "emptied": storyOfRaces()[:0]} {
		races(t, what, list)
		for _, looked := range [][]bool{nil, {}, {true, true, true}} {
			shorts(t, what, list, looked)
			for _, i := range placesOf(list) {
				for _, j := range placesOf(list) {
					isRace(t, what, list, i, j, false)
					isShort(t, what, list, looked, i, j, false)
				}
			}
		}
	}
}

// Places that a list does not have are no first one and no second one.
func TestRacesOfPlacesThatAreNone(t *testing.T) {
	list := storyOfRaces()
	p := plainRacesOf(list)
	all := slices.Repeat([]bool{true}, len(list)+50)
	for _, n := range placesOf(list) {
		for _, m := range placesOf(list) {
			isRace(t, "any two", list, n, m, p.isRace(n, m))
			isShort(t, "any two", list, all, n, m, p.isShort(all, n, m))
			isShort(t, "any two, no look", list, nil, n, m, false)
		}
	}
	for n := range len(list) {
		for j := n; j < len(list)+3; j++ {
			for i := range j {
				isRace(t, "behind the end", list[:n], int64(i), int64(j), false)
				isShort(t, "behind the end", list[:n], all, int64(i), int64(j), false)
			}
		}
		races(t, "a first part", list[:n], plainRacesOf(list[:n]).races()...)
	}
}

// A trace that breaks off: up to there all is as in its legal part, from there on there are no races.
func TestRacesWhereATraceBreaksOff(t *testing.T) {
	racy := func(gors int64) []impl.Event {
		return events(access(impl.EvWrite, 0, 4, 2), access(impl.EvWrite, gors-1, 4, 2), access(impl.EvRead, 0, 5, 2), fresh(0, 4, 1))
	}
	for _, c := range stopCases() {
		ahead := c.ahead
		gors := byPlainScene(ahead).scene.Gors
		legal := slices.Concat(ahead, racy(gors))
		list := slices.Concat(legal, events(c.stop), racy(gors), racy(1))
		if impl.LegalLen(list) != int64(len(legal)) {
			t.Fatalf("%s: %+v", c.what, list)
		}
		p := racesAsPlain(t, c.what, list)
		if len(p.races()) == 0 && gors > 1 {
			t.Fatalf("%s: no race in %+v", c.what, legal)
		}
		races(t, c.what, list, impl.RacesIn(legal)...)
		shorts(t, c.what, list, lookedAtAll(list), impl.ShortIn(legal, lookedAtAll(legal))...)
		shortsAsPlain(t, c.what, p, list, lookedAtAll(list))
		promiseOfRaces(t, c.what, list, lookedAtAll(list))
	}
}

// At each place of a story an event that can't be done: what is ahead of it counts, it and what is behind it do not.
func TestRacesWithWrongEvents(t *testing.T) {
	story := storyOfRaces()
	for k, e := range append(wrongEvents(), access(impl.EvWrite, 3, 10, 4), fresh(3, 0, 64), access(impl.EvRead, 1, 10, 0), fresh(0, 0, 65)) {
		at := k % (len(story) + 1)
		list := slices.Insert(slices.Clone(story), at, e)
		races(t, "the legal part", list, plainRacesOf(story[:at]).races()...)
		shorts(t, "the legal part", list, lookedAtAll(list), plainRacesOf(story[:at]).shorts(lookedAtAll(story))...)
		for i := range int64(len(list)) {
			isRace(t, "with it", list, i, int64(at), false)
			isRace(t, "behind it", list, i, int64(len(story)), false)
			isShort(t, "behind it", list, lookedAtAll(list), i, int64(len(story)), false)
		}
		races(t, "alone", events(e))
	}
	clash := access(impl.EvWrite, 2, 10, 4)
	for at := 1; at <= len(story); at++ {
		list := slices.Concat(story[:at], events(impl.Event{}, clash, clash))
		racesAsPlain(t, "a clash behind it", list)
	}
}

// crowd is a trace of all goroutines there may be, in turn, each with an access of that Kind to the same bytes.
func crowd(size int, kind int64) []impl.Event {
	var list []impl.Event
	for g := int64(1); g < 16; g++ {
		list = append(list, impl.Event{Kind: impl.EvGo, Obj: g})
	}
	for n := int64(0); len(list) < size; n++ {
		list = append(list, access(kind, n%16, 65535, 8))
	}
	return list
}

// At MaxEvents all are told of; with one more it is no trace, and there are no races.
func TestRacesAtMaxEvents(t *testing.T) {
	writes := crowd(maxTrace+1, impl.EvWrite)
	d := dice(88)
	rich := racyTrace(&d, maxTrace+1, 6, 40)
	broken := append(slices.Clone(rich[:maxTrace]), impl.Event{})
	for what, list := range map[string][]impl.Event{"writes": writes, "rich": rich, "broken off at the last one": broken} {
		if len(list) != maxTrace+1 {
			t.Fatalf("%s: %d events", what, len(list))
		}
		for _, size := range []int{maxTrace - 1, maxTrace} {
			p := plainRacesOf(list[:size])
			looked := d.looks(size, 6)
			races(t, what, list[:size], p.races()...)
			shorts(t, what, list[:size], looked, p.shorts(looked)...)
			last := int64(size - 1)
			for i := range int64(size) {
				isRace(t, what, list[:size], i, last, p.isRace(i, last))
				isShort(t, what, list[:size], looked, i, last, p.isShort(looked, i, last))
			}
		}
		races(t, what+", one more", list)
		shorts(t, what+", one more", list, lookedAtAll(list))
		for j := range int64(len(list)) {
			isRace(t, what+", one more", list, j-1, j, false)
			isShort(t, what+", one more", list, lookedAtAll(list), j-1, j, false)
			isRace(t, what+", one more", list, 15, j, false)
		}
	}
	for _, size := range []int{maxTrace + 2, 2 * maxTrace, 1<<16 + 1, 1<<16 + maxTrace} {
		long := crowd(size, impl.EvWrite)
		races(t, "too many", long)
		shorts(t, "too many", long, lookedAtAll(long))
		isRace(t, "too many", long, 15, 16, false)
		isShort(t, "too many", long, lookedAtAll(long), 15, 16, false)
	}
}

// A crowd at MaxEvents, counted: writers race with each write of others, short with the one right behind; one write behind reads races with all of others.
func TestRacesOfACrowd(t *testing.T) {
	list := crowd(maxTrace, impl.EvWrite)
	all, short := []impl.Pair{}, []impl.Pair{}
	for j := int64(15); j < maxTrace; j++ {
		for i := int64(15); i < j; i++ {
			if (j-i)%16 != 0 {
				all = append(all, impl.Pair{I: i, J: j})
			}
		}
		if j > 15 {
			short = append(short, impl.Pair{I: j - 1, J: j})
		}
	}
	races(t, "writes", list, all...)
	shorts(t, "writes", list, lookedAtAll(list), short...)
	list = crowd(maxTrace, impl.EvRead)
	races(t, "reads", list)
	last := int64(maxTrace - 1)
	list[last].Kind = impl.EvWrite
	all, short = []impl.Pair{}, []impl.Pair{}
	for i := int64(15); i < last; i++ {
		if (last-i)%16 != 0 {
			all = append(all, impl.Pair{I: i, J: last})
		}
		if i > last-16 {
			short = append(short, impl.Pair{I: i, J: last})
		}
	}
	races(t, "reads and a write", list, all...)
	shorts(t, "reads and a write", list, lookedAtAll(list), short...)
	shorts(t, "reads and a write, the last of each not looked at", list, lookedAtAll(list)[:last-16], plainRacesOf(list).shorts(lookedAtAll(list)[:last-16])...)
}

// A new, written or read stretch at each place of the longest trace is told of, and so is a race from its first to its last event.
func TestRacesAtEachPlace(t *testing.T) {
	loads := slices.Repeat(events(impl.Event{Kind: impl.EvLoad, Gor: 1, Obj: 4}), maxTrace)
	last := int64(maxTrace - 1)
	loads[0] = impl.Event{Kind: impl.EvGo, Obj: 1}
	loads[1] = access(impl.EvRead, 0, 4, 2)
	loads[last] = access(impl.EvWrite, 1, 5, 2)
	pair := impl.Pair{I: 1, J: last}
	races(t, "none between", loads, pair)
	shorts(t, "none between", loads, []bool{false, true}, pair)
	for at := int64(2); at < last; at++ {
		list := slices.Clone(loads)
		list[at] = fresh(1, 5, 1)
		races(t, "new", list)
		isShort(t, "new", list, lookedAtAll(list), 1, last, false)
		list[at] = access(impl.EvWrite, 1, 5, 1)
		races(t, "written", list, impl.Pair{I: 1, J: at}, pair)
		shorts(t, "written", list, []bool{false, true}, impl.Pair{I: 1, J: at})
		list[at] = access(impl.EvRead, 0, 5, 1)
		races(t, "read again", list, pair, impl.Pair{I: at, J: last})
		shorts(t, "read again", list, lookedAtAll(list), impl.Pair{I: at, J: last})
		shorts(t, "read again, not looked at", list, lookedBut(list, int(at)), pair)
	}
}

// Whether two are a race hangs on what is ahead of the second one alone.
func TestRacesHangOnWhatIsAheadAlone(t *testing.T) {
	d := dice(86)
	for _, list := range [][]impl.Event{storyOfRaces(), racyTrace(&d, 24, 3, 4)} {
		for j := range list {
			upTo := list[: j+1 : j+1]
			p := plainRacesOf(upTo)
			for _, tail := range behindThem() {
				longer := append(upTo, tail...)
				for i := range int64(j) {
					isRace(t, "with others behind it", longer, i, int64(j), p.isRace(i, int64(j)))
					isShort(t, "with others behind it", longer, lookedAtAll(longer), i, int64(j), p.isShort(lookedAtAll(upTo), i, int64(j)))
				}
			}
		}
	}
}

// Promise 22: an answer shares no memory with the list, nor with another answer.
func TestRacesAreNewMemory(t *testing.T) {
	d := dice(87)
	looked := d.looks(40, 6)
	asks := map[string]func([]impl.Event, []bool) []impl.Pair{
		"races":  func(list []impl.Event, _ []bool) []impl.Pair { return impl.RacesIn(list) },
		"shorts": impl.ShortIn,
	}
	for _, list := range [][]impl.Event{nil, storyOfRaces(), racyTrace(&d, 40, 4, 4), crowd(60, impl.EvWrite), {{}}, make([]impl.Event, maxTrace+1)} {
		for what, ask := range asks {
			given, seen := padded(list, spareEvent), padded(looked, true)
			first := ask(given, seen)
			want := slices.Clone(first)
			spoilWith(ask(given, seen), impl.Pair{I: -1, J: -1})
			if !slices.Equal(first, want) {
				t.Fatalf("%s: a write to a second answer makes %v of %v", what, first, want)
			}
			spoilWith(first, impl.Pair{I: -2, J: -2})
			again := ask(given, seen)
			staysPadded(t, what, given, list, spareEvent)
			staysPadded(t, what, seen, looked, true)
			spoilWith(given, impl.Event{Kind: impl.EvGo, Obj: 1})
			spoilWith(seen, false)
			if !slices.Equal(again, want) {
				t.Fatalf("%s: behind writes to an answer and to the list %v is told, not %v", what, again, want)
			}
		}
	}
}

// What stands in the spare room is not looked at, and what is written there behind the call changes no answer.
func TestRacesAndTheSpareRoom(t *testing.T) {
	list := storyOfRaces()
	p := plainRacesOf(list)
	some := []bool{true, true, true, true}
	for _, behind := range events(impl.Event{}, access(impl.EvWrite, 1, 10, 8), fresh(0, 0, 64)) {
		for _, mark := range []bool{false, true} {
			given, seen := padded(list, behind), padded(some, mark)
			all, short := impl.RacesIn(given), impl.ShortIn(given, seen)
			spoilWith(given[len(given):], access(impl.EvRead, 2, 10, 8))
			spoilWith(seen[len(seen):], !mark)
			if !slices.Equal(all, p.races()) || !slices.Equal(short, p.shorts(some)) {
				t.Fatalf("with %+v and %v behind: %v and %v", behind, mark, all, short)
			}
			races(t, "written behind", given, all...)
			shorts(t, "written behind", given, seen, short...)
			for j := range int64(len(list)) + 20 {
				isRace(t, "written behind", given, 2, j, p.isRace(2, j))
				isShort(t, "written behind", given, seen, 2, j, p.isShort(some, 2, j))
				isShort(t, "written behind", given, seen, 6, j, false)
			}
		}
	}
}

// What was asked ahead leaves nothing behind: what is between two is gone through anew in each call.
func TestRacesKeepNothing(t *testing.T) {
	d := dice(89)
	list, other := racyTrace(&d, 40, 4, 3), storyOfRaces()
	p, q := plainRacesOf(list), plainRacesOf(other)
	looked := d.looks(len(list), 6)
	for range 3 {
		for j := int64(len(list) - 1); j >= 0; j-- {
			for i := range j {
				isShort(t, "from the last one on", list, looked, i, j, p.isShort(looked, i, j))
				isRace(t, "another one", other, i, j, q.isRace(i, j))
				isShort(t, "all looked at", list, lookedAtAll(list), i, j, p.isShort(lookedAtAll(list), i, j))
			}
			shorts(t, "another one", other, lookedAtAll(other), q.shorts(lookedAtAll(other))...)
			races(t, "from the last one on", list, p.races()...)
			shorts(t, "from the last one on", list, looked, p.shorts(looked)...)
		}
	}
}
