package tests

import (
	"fmt"
	"math"
	"slices"
	"testing"

	"loop.example/g00720/impl"
)

// spareTouch is what an answer is written over with: no event touches this.
var spareTouch = impl.Touch{Space: -7, Obj: -7, Slot: -7, Takes: true, Gives: true}

// touchesByKind is the document's row of touches, written out apart from the program's: of Obj 0, at Slot 0.
func touchesByKind() map[int64][]impl.Touch {
	takes := func(space int64) impl.Touch { return impl.Touch{Space: space, Takes: true} }
	gives := func(space int64) impl.Touch { return impl.Touch{Space: space, Gives: true} }
	both := func(space int64) impl.Touch { return impl.Touch{Space: space, Takes: true, Gives: true} }
	return map[int64][]impl.Touch{
		2:  {takes(1), takes(2)},
		3:  {gives(1)},
		4:  {takes(1)},
		5:  {gives(2)},
		7:  {both(3)},
		8:  {both(3)},
		10: {gives(4)},
		11: {takes(4)},
		13: {gives(5)},
		14: {takes(5)},
		15: {gives(6)},
		16: {takes(6)},
		17: {takes(7)},
		18: {gives(7)},
		19: {both(7)},
	}
}

// slotByCount counts, in the list itself, those of the Kind and the channel of the event at j.
func slotByCount(list []impl.Event, j int64) int64 {
	room := int64(0)
	ahead := int64(0)
	for _, e := range list[:j] {
		if e.Kind == impl.EvMake && e.Obj == list[j].Obj {
			room = e.Size
		}
		if e.Kind == list[j].Kind && e.Obj == list[j].Obj {
			ahead++
		}
	}
	return ahead % room
}

// plainTouches tells what an event touches without the program.
func plainTouches(list []impl.Event, j int64) []impl.Touch {
	if len(list) > maxTrace || j < 0 || j >= byPlainScene(list).size {
		return nil
	}
	return touchesOfDone(list, j)
}

// touchesOfDone are those of an event that can be done.
func touchesOfDone(list []impl.Event, j int64) []impl.Touch {
	touches := touchesByKind()[list[j].Kind]
	for i, touch := range touches {
		touches[i].Obj = list[j].Obj
		if touch.Space == 3 {
			touches[i].Slot = slotByCount(list, j)
		}
	}
	return touches
}

// touches fails where an event does not touch just this, in this order.
func touches(t *testing.T, what string, list []impl.Event, j int64, want ...impl.Touch) {
	t.Helper()
	if got := impl.TouchesOf(list, j); !slices.Equal(got, want) {
		t.Fatalf("%s: the event at %d of %+v touches %+v, not %+v", what, j, list, got, want)
	}
}

// placesOf are all places of a list, and those beside its ends and at the ends of numbers.
func placesOf(list []impl.Event) []int64 {
	size := int64(len(list))
	all := append(oddNumbers(), -2, size, size+1, size+2, size+19, size+20, maxTrace-1, maxTrace, maxTrace+1, math.MinInt32, math.MaxInt32, 1<<32+1)
	for j := range size {
		all = append(all, j, j-1<<32, j+1<<32)
	}
	return all
}

// touchesAsPlain holds a list, at all places, against the plain model.
func touchesAsPlain(t *testing.T, what string, list []impl.Event) {
	t.Helper()
	given := padded(list, spareEvent)
	for _, j := range placesOf(list) {
		touches(t, what, given, j, plainTouches(list, j)...)
	}
	staysPadded(t, what, given, list, spareEvent)
}

func TestSpacesAreNumbered(t *testing.T) {
	spaces := []int64{impl.SpWriter, impl.SpReaders, impl.SpSlot, impl.SpClose, impl.SpGroup, impl.SpOnce, impl.SpAtomic}
	if !slices.Equal(spaces, []int64{1, 2, 3, 4, 5, 6, 7}) {
		t.Error(spaces)
	}
}

// gorsByFields are the Gor and, of EvMeet, the With, each once.
func gorsByFields(e impl.Event) []int64 {
	all := []int64{e.Gor}
	if e.Kind == 9 {
		all = append(all, e.With)
	}
	slices.Sort(all)
	return slices.Compact(all)
}

func TestGorsOfExamples(t *testing.T) {
	for _, c := range []struct {
		what string
		e    impl.Event
		want []int64
	}{
		{"Gor alone", impl.Event{Kind: impl.EvLoad, Gor: 3, Obj: 5}, []int64{3}},
		{"goroutine 0", impl.Event{Kind: impl.EvLoad}, []int64{0}},
		{"the last goroutine", impl.Event{Kind: impl.EvRead, Gor: 15, Size: 1}, []int64{15}},
		{"who is started is not yet of it", impl.Event{Kind: impl.EvGo, Gor: 2, Obj: 9}, []int64{2}},
		{"With is greater", impl.Event{Kind: impl.EvMeet, Gor: 2, Obj: 5, With: 7}, []int64{2, 7}},
		{"With is less", impl.Event{Kind: impl.EvMeet, Gor: 7, Obj: 5, With: 2}, []int64{2, 7}},
		{"With is 0", impl.Event{Kind: impl.EvMeet, Gor: 1, Obj: 5}, []int64{0, 1}},
		{"the ends", impl.Event{Kind: impl.EvMeet, Gor: 15, With: 0}, []int64{0, 15}},
		{"With is Gor: no two are alike", impl.Event{Kind: impl.EvMeet, Gor: 4, Obj: 5, With: 4}, []int64{4}},
		{"both are 0", impl.Event{Kind: impl.EvMeet, Obj: 5}, []int64{0}},
		{"the zero Event", impl.Event{}, nil},
		{"no Kind", impl.Event{Kind: 23, Gor: 1}, nil},
		{"Gor is out of range", impl.Event{Kind: impl.EvMeet, Gor: 16, With: 1}, nil},
		{"With is out of range", impl.Event{Kind: impl.EvMeet, Gor: 1, With: 16}, nil},
		{"With is below 0", impl.Event{Kind: impl.EvMeet, Gor: 1, With: -1}, nil},
		{"a With that is not named", impl.Event{Kind: impl.EvSend, Gor: 1, With: 2}, nil},
		{"an Obj out of range", impl.Event{Kind: impl.EvMeet, Gor: 1, Obj: 16, With: 2}, nil},
	} {
		if got := impl.GorsOf(c.e); !slices.Equal(got, c.want) {
			t.Errorf("%s: %v, not %v", c.what, got, c.want)
		}
	}
}

func TestGorsOfRightEvents(t *testing.T) {
	met := map[int64]int{}
	for _, e := range append(eventsBeside(), rightEvents()...) {
		got := impl.GorsOf(e)
		if !slices.Equal(got, gorsByFields(e)) {
			t.Fatalf("%+v is of %v", e, got)
		}
		met[e.Kind]++
		spoil(got)
		if again := impl.GorsOf(e); !slices.Equal(again, gorsByFields(e)) {
			t.Fatalf("behind a write to an answer, %+v is of %v", e, again)
		}
	}
	if len(met) != 22 {
		t.Errorf("%d Kinds", len(met))
	}
}

// All pairs of goroutines that may meet.
func TestGorsOfMeets(t *testing.T) {
	for gor := range int64(16) {
		for with := range int64(16) {
			want := []int64{min(gor, with), max(gor, with)}
			if gor == with {
				want = want[:1]
			}
			for _, obj := range []int64{0, 15} {
				if got := impl.GorsOf(impl.Event{Kind: 9, Gor: gor, Obj: obj, With: with}); !slices.Equal(got, want) {
					t.Errorf("%d and %d: %v", gor, with, got)
				}
			}
		}
	}
}

func TestGorsOfWrongEvents(t *testing.T) {
	for _, e := range append(wrongEvents(), impl.Event{}) {
		if got := impl.GorsOf(e); len(got) != 0 {
			t.Fatalf("%+v is of %v", e, got)
		}
	}
	for kind := int64(-1); kind <= 24; kind++ {
		for _, gor := range oddNumbers() {
			for _, with := range oddNumbers() {
				e := impl.Event{Kind: kind, Gor: gor, With: with}
				var want []int64
				if impl.EventOk(e) {
					want = gorsByFields(e)
				}
				if got := impl.GorsOf(e); !slices.Equal(got, want) {
					t.Fatalf("%+v is of %v, not %v", e, got, want)
				}
			}
		}
	}
}

func TestAnswersOfGorsOfAreApart(t *testing.T) {
	for _, e := range []impl.Event{{Kind: impl.EvMeet, Gor: 3, With: 2}, {Kind: impl.EvLoad, Gor: 3}, {}} {
		first := impl.GorsOf(e)
		kept := slices.Clone(first)
		spoil(impl.GorsOf(e))
		if !slices.Equal(first, kept) {
			t.Errorf("a write to a second answer makes %v of %v", first, kept)
		}
	}
}

// storyTouches are what the events of storyOfEveryKind touch, place by place.
func storyTouches() [][]impl.Touch {
	takes, gives := true, true
	return [][]impl.Touch{
		nil,
		nil,
		nil,
		nil,
		{{Space: 1, Obj: 5, Takes: takes}, {Space: 2, Obj: 5, Takes: takes}},
		{{Space: 1, Obj: 3, Takes: takes}},
		{{Space: 1, Obj: 3, Takes: takes}},
		{{Space: 3, Obj: 3, Slot: 0, Takes: takes, Gives: gives}},
		{{Space: 3, Obj: 3, Slot: 1, Takes: takes, Gives: gives}},
		{{Space: 3, Obj: 3, Slot: 0, Takes: takes, Gives: gives}},
		nil,
		{{Space: 4, Obj: 3, Gives: gives}},
		{{Space: 3, Obj: 3, Slot: 1, Takes: takes, Gives: gives}},
		{{Space: 4, Obj: 3, Takes: takes}},
		nil,
		{{Space: 5, Obj: 6, Gives: gives}},
		{{Space: 6, Obj: 8, Gives: gives}},
		{{Space: 6, Obj: 8, Takes: takes}},
		{{Space: 1, Obj: 5, Gives: gives}},
		{{Space: 2, Obj: 3, Gives: gives}},
		{{Space: 5, Obj: 7, Takes: takes}},
		{{Space: 7, Obj: 9, Takes: takes}},
		{{Space: 7, Obj: 9, Gives: gives}},
		{{Space: 7, Obj: 9, Takes: takes, Gives: gives}},
		nil,
		nil,
		nil,
	}
}

func TestTouchesOfEveryKind(t *testing.T) {
	list := storyOfEveryKind()
	for j, want := range storyTouches() {
		touches(t, "a story", list, int64(j), want...)
	}
	if len(storyTouches()) != len(list) {
		t.Error(len(list))
	}
	touchesAsPlain(t, "a story", list)
}

// waysTo are the least that must be ahead of an event of each Kind with that Obj, by goroutine 1, and the event itself.
func waysTo(obj int64) [][]impl.Event {
	ev := func(kind int64) impl.Event { return impl.Event{Kind: kind, Gor: 1, Obj: obj} }
	of := func(size int64) impl.Event { return impl.Event{Kind: impl.EvMake, Gor: 1, Obj: obj, Size: size} }
	add := impl.Event{Kind: impl.EvAdd, Gor: 1, Obj: obj, Size: 1}
	return [][]impl.Event{
		{{Kind: impl.EvGo, Gor: 1, Obj: 2}},
		{ev(impl.EvLock)},
		{ev(impl.EvLock), ev(impl.EvUnlock)},
		{ev(impl.EvRLock)},
		{ev(impl.EvRLock), ev(impl.EvRUnlock)},
		{of(3)},
		{of(3), ev(impl.EvSend)},
		{of(3), ev(impl.EvSend), ev(impl.EvRecv)},
		{of(0), {Kind: impl.EvMeet, Gor: 1, Obj: obj}},
		{of(3), ev(impl.EvClose)},
		{of(3), ev(impl.EvClose), ev(impl.EvSawClose)},
		{add},
		{add, ev(impl.EvDone)},
		{add, ev(impl.EvDone), ev(impl.EvWait)},
		{ev(impl.EvOnce)},
		{ev(impl.EvOnce), ev(impl.EvSawOnce)},
		{ev(impl.EvLoad)},
		{ev(impl.EvStore)},
		{ev(impl.EvSwap)},
		{{Kind: impl.EvRead, Gor: 1, Lo: obj, Size: 8, Fn: obj, Site: obj}},
		{{Kind: impl.EvWrite, Gor: 1, Lo: obj, Size: 8, Fn: obj, Site: obj}},
		{{Kind: impl.EvFresh, Gor: 1, Lo: obj, Size: 64}},
	}
}

// Each Kind with each Obj: it is the event's in every touch of it, and all of them are at Slot 0.
func TestTouchesOfEveryObj(t *testing.T) {
	for obj := range int64(16) {
		for i, way := range waysTo(obj) {
			list := append([]impl.Event{{Kind: impl.EvGo, Obj: 1}}, way...)
			last := int64(len(list) - 1)
			if list[last].Kind != int64(i+1) || impl.LegalLen(list) != last+1 {
				t.Fatalf("%+v", list)
			}
			want := touchesByKind()[int64(i+1)]
			for k := range want {
				want[k].Obj = obj
			}
			touches(t, fmt.Sprint("Kind ", i+1), list, last, want...)
			touchesAsPlain(t, fmt.Sprint("Kind ", i+1), list)
		}
	}
}

// usedChannel is a trace of one channel that is sent to and received of, in the order that the row tells.
func usedChannel(obj int64, room int64, row []int64) []impl.Event {
	list := []impl.Event{{Kind: impl.EvMake, Obj: obj, Size: room}}
	for _, kind := range row {
		list = append(list, impl.Event{Kind: kind, Obj: obj})
	}
	return list
}

// rowsFor are turns at a channel, each past twice its Cap: one by one, filled and emptied, and one ahead.
func rowsFor(room int64) [][]int64 {
	one := slices.Repeat([]int64{impl.EvSend, impl.EvRecv}, int(3*room+2))
	full := slices.Concat(slices.Repeat([]int64{impl.EvSend}, int(room)), slices.Repeat([]int64{impl.EvRecv}, int(room)))
	behind := slices.Concat(slices.Repeat([]int64{impl.EvSend}, int(room)), slices.Repeat([]int64{impl.EvRecv, impl.EvSend}, int(3*room+2)))
	return [][]int64{one, slices.Repeat(full, 4), behind}
}

// Channels of every Cap: sends go round their slots, and so do receives, each by a count of its own.
func TestSlotsGoRound(t *testing.T) {
	for room := int64(1); room <= 8; room++ {
		for _, row := range rowsFor(room) {
			what := fmt.Sprint("Cap ", room)
			list := usedChannel(11, room, row)
			if impl.LegalLen(list) != int64(len(list)) || int64(len(row)) <= 4*room {
				t.Fatalf("%s: %+v", what, list)
			}
			next := map[int64]int64{}
			for j, kind := range row {
				want := impl.Touch{Space: 3, Obj: 11, Slot: next[kind], Takes: true, Gives: true}
				touches(t, what, list, int64(j+1), want)
				next[kind]++
				if next[kind] == room {
					next[kind] = 0
				}
			}
			touchesAsPlain(t, what, list)
		}
	}
}

// What is received is taken from the slot into which it was put.
func TestReceivesMeetTheirSends(t *testing.T) {
	for room := int64(1); room <= 8; room++ {
		for _, row := range rowsFor(room) {
			list := usedChannel(0, room, row)
			var put []impl.Touch
			for j := 1; j < len(list); j++ {
				got := impl.TouchesOf(list, int64(j))
				if list[j].Kind == impl.EvSend {
					put = append(put, got...)
					continue
				}
				if len(got) != 1 || got[0] != put[0] {
					t.Fatalf("Cap %d: at %d %+v is taken, where %+v was put", room, j, got, put[0])
				}
				put = put[1:]
			}
		}
	}
}

func TestSlotsWrittenOut(t *testing.T) {
	send := func(gor int64, obj int64) impl.Event { return impl.Event{Kind: impl.EvSend, Gor: gor, Obj: obj} }
	recv := func(gor int64, obj int64) impl.Event { return impl.Event{Kind: impl.EvRecv, Gor: gor, Obj: obj} }
	list := []impl.Event{
		{Kind: impl.EvGo, Obj: 1},
		{Kind: impl.EvMake, Obj: 2, Size: 3},
		{Kind: impl.EvMake, Obj: 5, Size: 2},
		send(0, 2), send(1, 5), send(1, 2), send(0, 5), recv(1, 5), send(0, 2), recv(0, 2),
		send(1, 5), send(1, 2), recv(0, 5), recv(0, 5), recv(1, 2), send(0, 5), recv(1, 2), recv(1, 2),
	}
	slots := []int64{0, 0, 1, 1, 0, 2, 0, 0, 0, 1, 0, 1, 1, 2, 0}
	for k, slot := range slots {
		j := int64(k + 3)
		touches(t, "two channels", list, j, impl.Touch{Space: 3, Obj: list[j].Obj, Slot: slot, Takes: true, Gives: true})
	}
	if len(slots)+3 != len(list) {
		t.Error(len(list))
	}
}

// Two channels used in turn: neither counts in the other's slots, at all pairs of Caps.
func TestSlotsOfTwoChannels(t *testing.T) {
	for one := int64(1); one <= 8; one++ {
		for two := int64(1); two <= 8; two++ {
			list := []impl.Event{{Kind: impl.EvGo, Obj: 1}, {Kind: impl.EvMake, Obj: 1, Size: one}, {Kind: impl.EvMake, Obj: 0, Size: two}}
			d := dice(one*8 + two)
			var sent, got [2]int64
			rooms := [2]int64{two, one}
			for range 90 {
				obj := d.below(2)
				e := impl.Event{Kind: impl.EvSend + d.below(2), Gor: d.below(2), Obj: obj}
				slot := sent[obj] % rooms[obj]
				if e.Kind == impl.EvRecv {
					slot = got[obj] % rooms[obj]
				}
				more := append(slices.Clone(list), e)
				if byPlainScene(more).code != codeOk {
					touches(t, "can't be done", more, int64(len(list)))
					continue
				}
				touches(t, "in turn", more, int64(len(list)), impl.Touch{Space: 3, Obj: obj, Slot: slot, Takes: true, Gives: true})
				if list = more; e.Kind == impl.EvSend {
					sent[obj]++
				} else {
					got[obj]++
				}
			}
			touchesAsPlain(t, "in turn", list)
		}
	}
}

// The slot hangs on the channel alone: neither on who sends, nor on others of that Obj, nor on a channel that holds none.
func TestSlotsPassOverOthers(t *testing.T) {
	list := []impl.Event{{Kind: impl.EvGo, Obj: 1}, {Kind: impl.EvMake, Obj: 4, Size: 5}, {Kind: impl.EvMake, Obj: 9}}
	for n := range int64(17) {
		gor := n % 2
		others := []impl.Event{
			{Kind: impl.EvLock, Gor: gor, Obj: 4}, {Kind: impl.EvUnlock, Gor: gor, Obj: 4},
			{Kind: impl.EvAdd, Gor: gor, Obj: 4, Size: 3}, {Kind: impl.EvDone, Gor: gor, Obj: 4},
			{Kind: impl.EvSwap, Gor: gor, Obj: 4}, {Kind: impl.EvMeet, Gor: gor, Obj: 9, With: 1 - gor},
			{Kind: impl.EvWrite, Gor: gor, Lo: 4, Size: 5},
		}
		list = append(list, others...)
		list = append(list, impl.Event{Kind: impl.EvSend, Gor: gor, Obj: 4}, impl.Event{Kind: impl.EvRecv, Gor: 1 - gor, Obj: 4})
		want := impl.Touch{Space: 3, Obj: 4, Slot: n % 5, Takes: true, Gives: true}
		touches(t, "a send", list, int64(len(list)-2), want)
		touches(t, "a receive", list, int64(len(list)-1), want)
		touches(t, "a meeting", list, int64(len(list)-4))
	}
	touchesAsPlain(t, "others", list)
}

// What is left in a closed channel is still received slot by slot.
func TestSlotsOfAClosedChannel(t *testing.T) {
	row := slices.Concat(slices.Repeat([]int64{impl.EvSend, impl.EvRecv}, 6), slices.Repeat([]int64{impl.EvSend}, 4), []int64{impl.EvClose}, slices.Repeat([]int64{impl.EvRecv}, 4), []int64{impl.EvSawClose, impl.EvSawClose})
	list := usedChannel(3, 4, row)
	for k, slot := range []int64{2, 3, 0, 1} {
		touches(t, "left", list, int64(18+k), impl.Touch{Space: 3, Obj: 3, Slot: slot, Takes: true, Gives: true})
	}
	touches(t, "closed", list, 17, impl.Touch{Space: 4, Obj: 3, Gives: true})
	touches(t, "seen", list, 22, impl.Touch{Space: 4, Obj: 3, Takes: true})
	touches(t, "seen again", list, 23, impl.Touch{Space: 4, Obj: 3, Takes: true})
	touchesAsPlain(t, "closed", list)
}

func TestTouchesOfNoEvent(t *testing.T) {
	for what, list := range map[string][]impl.Event{"nil": nil, "empty": {}, "emptied": storyOfEveryKind()[:0]} {
		for _, j := range placesOf(list) {
			touches(t, what, list, j)
		}
	}
}

// Behind the end, what stands in the spare room is no event of the list.
func TestTouchesBehindTheEnd(t *testing.T) {
	whole := storyOfEveryKind()
	for n := range len(whole) {
		for j := n; j < len(whole)+3; j++ {
			touches(t, "behind the end", whole[:n], int64(j))
		}
		touches(t, "below 0", whole[n:], -1)
	}
	for _, j := range oddNumbers() {
		touches(t, "one swap", []impl.Event{{Kind: impl.EvSwap}}, j, plainTouches([]impl.Event{{Kind: impl.EvSwap}}, j)...)
	}
}

// A trace that breaks off: up to there all is as in its legal part, from there on nothing is touched, whatever could be done.
func TestTouchesWhereATraceBreaksOff(t *testing.T) {
	swaps := []impl.Event{{Kind: impl.EvSwap, Obj: 14}, {Kind: impl.EvLock, Obj: 14}, {Kind: impl.EvStore, Obj: 14}}
	for _, c := range stopCases() {
		for _, ahead := range [][]impl.Event{c.ahead, slices.Concat(swaps, c.ahead), slices.Concat(c.ahead, swaps)} {
			list := slices.Concat(ahead, []impl.Event{c.stop}, []impl.Event{{Kind: impl.EvSwap, Obj: 13}, {Kind: impl.EvLoad}, {Kind: impl.EvLock, Obj: 13}})
			for j := range list {
				if j < len(ahead) {
					touches(t, c.what, list, int64(j), impl.TouchesOf(ahead, int64(j))...)
				} else {
					touches(t, c.what, list, int64(j))
				}
			}
			touchesAsPlain(t, c.what, list)
		}
	}
}

// Events of which one field, or the Kind, is wrong touch nothing, and neither does what is behind them.
func TestTouchesOfWrongEvents(t *testing.T) {
	story := storyOfEveryKind()
	for i, e := range wrongEvents() {
		at := i % (len(story) + 1)
		list := slices.Insert(slices.Clone(story), at, e)
		touches(t, "alone", []impl.Event{e}, 0)
		for j := range list {
			if j < at {
				touches(t, "ahead", list, int64(j), storyTouches()[j]...)
			} else {
				touches(t, "at or behind", list, int64(j))
			}
		}
	}
}

// Right events alone: all but a few can't be done as the first one.
func TestTouchesOfOneEvent(t *testing.T) {
	for _, e := range append(eventsBeside(), rightEvents()...) {
		list := []impl.Event{e}
		touches(t, "one event", list, 0, plainTouches(list, 0)...)
		touches(t, "one event", list, 1)
		touches(t, "one event", list, -1)
	}
}

func TestTouchesInLongTraces(t *testing.T) {
	met := map[impl.Touch]int{}
	for walk := range int64(8) {
		d := dice(60 + walk)
		list := legalTrace(&d, maxTrace, 1+walk*5%16, 2+walk)
		touchesAsPlain(t, fmt.Sprint("walk ", walk), list)
		for j := range list {
			for _, touch := range impl.TouchesOf(list, int64(j)) {
				touch.Obj = 0
				met[touch]++
			}
		}
	}
	for _, all := range touchesByKind() {
		for _, touch := range all {
			if met[touch] == 0 {
				t.Errorf("%+v was never met", touch)
			}
		}
	}
}

func TestTouchesInTracesThatBreakOff(t *testing.T) {
	for walk := range int64(300) {
		d := dice(3000 + walk)
		list := legalTrace(&d, int(d.below(50)), 1+d.below(6), 1+d.below(5))
		thrown := append(someOf(2), d.event(3, 5), d.event(3, 5))
		for range 1 + d.below(3) {
			list = slices.Insert(list, int(d.below(int64(len(list)+1))), thrown[d.below(int64(len(thrown)))])
		}
		touchesAsPlain(t, fmt.Sprint("walk ", walk), list)
	}
}

// At MaxEvents all are told of; with one more it is no trace, and none touches anything.
func TestTouchesAtMaxEvents(t *testing.T) {
	d := dice(6)
	swaps := slices.Repeat([]impl.Event{{Kind: impl.EvSwap, Obj: 2}}, maxTrace+1)
	rich := legalTrace(&d, maxTrace+1, 16, 9)
	broken := append(slices.Clone(rich[:maxTrace]), impl.Event{})
	for what, list := range map[string][]impl.Event{"swaps": swaps, "rich": rich, "broken off at the last one": broken} {
		for _, size := range []int{maxTrace - 1, maxTrace} {
			touchesAsPlain(t, what, list[:size])
		}
		for _, j := range placesOf(list) {
			touches(t, what+", one more", list, j)
		}
	}
	swap := impl.Touch{Space: 7, Obj: 2, Takes: true, Gives: true}
	for _, j := range []int64{0, 1, maxTrace - 2, maxTrace - 1} {
		touches(t, "swaps", swaps[:maxTrace], j, swap)
	}
	touches(t, "behind the last one", swaps[:maxTrace], maxTrace)
	for _, size := range []int{maxTrace + 2, 2 * maxTrace, 1<<16 + 1, 1<<16 + maxTrace} {
		long := slices.Repeat(swaps[:1], size)
		for _, j := range []int64{-1, 0, 1, maxTrace - 1, maxTrace, int64(size) - 1, int64(size)} {
			touches(t, fmt.Sprint(size, " swaps"), long, j)
		}
	}
}

// Slots as far as a trace reaches: the last send of the longest trace.
func TestSlotsAtMaxEvents(t *testing.T) {
	for room := int64(1); room <= 8; room++ {
		row := slices.Repeat([]int64{impl.EvSend, impl.EvRecv}, 150)[:maxTrace-1]
		list := usedChannel(7, room, row)
		want := impl.Touch{Space: 3, Obj: 7, Slot: 149 % room, Takes: true, Gives: true}
		touches(t, fmt.Sprint("Cap ", room), list, maxTrace-1, want)
	}
}

// behindThem are tails that a list may have behind an event: those that can be done, those that can't, and more of the same channel.
func behindThem() [][]impl.Event {
	all := tailsBehind()
	for obj := range int64(10) {
		all = append(all, []impl.Event{{Kind: impl.EvSend, Obj: obj}, {Kind: impl.EvRecv, Obj: obj}, {Kind: impl.EvMake, Obj: obj, Size: 7}})
		all = append(all, []impl.Event{{Kind: impl.EvMake, Obj: obj, Size: 7}, {Kind: impl.EvSend, Obj: obj}, {Kind: impl.EvClose, Obj: obj}})
	}
	load := []impl.Event{{Kind: impl.EvLoad}}
	return append(all, slices.Repeat(load, 250), make([]impl.Event, 200), storyOfEveryKind())
}

// Promise 6: what an event touches is the same in every list with the same events up to it, whatever is behind it.
func TestTouchesHangOnWhatIsAheadAlone(t *testing.T) {
	d := dice(66)
	for _, list := range [][]impl.Event{storyOfEveryKind(), usedChannel(3, 3, rowsFor(3)[2]), legalTrace(&d, 40, 4, 4)} {
		for j := range list {
			upTo := list[: j+1 : j+1]
			want := impl.TouchesOf(list, int64(j))
			touches(t, "by the model", list, int64(j), plainTouches(list, int64(j))...)
			for _, tail := range behindThem() {
				touches(t, "with others behind it", append(upTo, tail...), int64(j), want...)
			}
			for n := j + 1; n <= len(list); n++ {
				touches(t, "with fewer behind it", list[:n], int64(j), want...)
			}
		}
	}
}

// Promise 6, the other way round: long traces with all behind one place thrown anew.
func TestTouchesWithAllBehindThrownAnew(t *testing.T) {
	for walk := range int64(20) {
		d := dice(600 + walk)
		list := legalTrace(&d, maxTrace, 1+d.below(5), 2+d.below(6))
		other := legalTrace(&d, maxTrace, 1+d.below(5), 2+d.below(6))
		for range 12 {
			cut := d.below(maxTrace) + 1
			mixed := append(slices.Clone(list[:cut]), other[cut:]...)
			for _, j := range []int64{0, cut / 2, cut - 1} {
				touches(t, "thrown anew", mixed, j, impl.TouchesOf(list, j)...)
				touches(t, "broken off", append(slices.Clone(list[:cut]), impl.Event{}), j, impl.TouchesOf(list, j)...)
			}
		}
	}
}

// An event that can't be done stays so, and touches nothing, whatever is behind it.
func TestWhatCantBeDoneTouchesNothingWhateverIsBehind(t *testing.T) {
	for _, c := range stopCases() {
		upTo := append(slices.Clone(c.ahead), c.stop)
		for _, tail := range behindThem() {
			touches(t, c.what, slices.Concat(upTo, tail), int64(len(c.ahead)))
		}
	}
}

// Promise 22: an answer shares no memory with the list, nor with another answer.
func TestTouchesAreNewMemory(t *testing.T) {
	d := dice(8)
	for _, list := range [][]impl.Event{nil, storyOfEveryKind(), usedChannel(3, 2, rowsFor(2)[1]), legalTrace(&d, 120, 4, 4), {{}}, make([]impl.Event, maxTrace+1)} {
		given := padded(list, spareEvent)
		for j := int64(-1); j <= int64(len(list)); j++ {
			first := impl.TouchesOf(given, j)
			want := plainTouches(list, j)
			spoilWith(impl.TouchesOf(given, j), spareTouch)
			if !slices.Equal(first, want) {
				t.Fatalf("at %d: a write to a second answer makes %+v of %+v", j, first, want)
			}
			spoilWith(first, spareTouch)
			touches(t, "behind a write to an answer", given, j, want...)
			staysPadded(t, fmt.Sprint("at ", j), given, list, spareEvent)
			again := impl.TouchesOf(given, j)
			spoilWith(given, impl.Event{Kind: impl.EvGo, Obj: 1})
			if !slices.Equal(again, want) {
				t.Fatalf("at %d: a write to the argument makes %+v of %+v", j, again, want)
			}
			given = padded(list, spareEvent)
		}
	}
}

// What stands in the spare room is not looked at, and what is written there behind the call changes no answer.
func TestTouchesAndTheSpareRoom(t *testing.T) {
	list := usedChannel(3, 4, rowsFor(4)[2])
	for _, behind := range []impl.Event{{}, {Kind: impl.EvSend, Obj: 3}, {Kind: impl.EvRecv, Obj: 3}, {Kind: impl.EvSwap}} {
		given := padded(list, behind)
		for j := int64(0); j < int64(len(list))+20; j++ {
			got := impl.TouchesOf(given, j)
			staysPadded(t, fmt.Sprint("at ", j), given, list, behind)
			spoilWith(given[len(given):cap(given)], impl.Event{Kind: impl.EvStore, Obj: 3})
			if want := plainTouches(list, j); !slices.Equal(got, want) || !slices.Equal(impl.TouchesOf(given, j), want) {
				t.Fatalf("at %d with %+v behind the list: %+v, not %+v", j, behind, got, want)
			}
			spoilWith(given[len(given):cap(given)], behind)
		}
	}
}

// What was asked ahead leaves nothing behind: slots are counted anew in each call.
func TestTouchesKeepNothing(t *testing.T) {
	list := usedChannel(3, 4, rowsFor(4)[0])
	last := int64(len(list) - 1)
	for range 3 {
		for j := last; j >= 0; j-- {
			touches(t, "from the last one on", list, j, plainTouches(list, j)...)
			touches(t, "none", nil, j)
			touches(t, "too many", make([]impl.Event, maxTrace+1), j)
		}
	}
}
