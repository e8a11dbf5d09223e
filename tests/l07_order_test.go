package tests

import (
	"fmt"
	"slices"
	"testing"

	"loop.example/g00720/impl"
)

// A plainOrder is who is ahead of whom in a trace's legal part, told without the program.
type plainOrder struct {
	edges   [][]int64
	befores [][]bool
}

func isOf(e impl.Event, gor int64) bool { return slices.Contains(gorsByFields(e), gor) }

// isPlainEdge asks the document's three cases of one pair of events.
func isPlainEdge(list []impl.Event, touches [][]impl.Touch, i int, j int) bool {
	for _, gor := range gorsByFields(list[j]) {
		later := func(e impl.Event) bool { return isOf(e, gor) }
		if isOf(list[i], gor) && !slices.ContainsFunc(list[i+1:j], later) {
			return true
		}
		if list[i].Kind == 1 && list[i].Obj == gor {
			return true
		}
	}
	for _, give := range touches[i] {
		for _, take := range touches[j] {
			if give.Gives && take.Takes && give.Space == take.Space && give.Obj == take.Obj && give.Slot == take.Slot {
				return true
			}
		}
	}
	return false
}

func plainOrderOf(list []impl.Event) plainOrder {
	if len(list) > maxTrace {
		return plainOrder{}
	}
	list = list[:byPlainScene(list).size]
	p := plainOrder{make([][]int64, len(list)), make([][]bool, len(list))}
	touches := make([][]impl.Touch, len(list))
	for j := range list {
		touches[j] = touchesOfDone(list, int64(j))
		p.befores[j] = make([]bool, len(list))
		for i := range j {
			if isPlainEdge(list, touches, i, j) {
				p.edges[j] = append(p.edges[j], int64(i))
				p.befores[j][i] = true
			}
		}
	}
	p.goOn()
	return p
}

// goOn takes each event as one that a way may lead over.
func (p plainOrder) goOn() {
	for over := range p.befores {
		for j := range p.befores {
			if !p.befores[j][over] {
				continue
			}
			for i := range p.befores {
				p.befores[j][i] = p.befores[j][i] || p.befores[over][i]
			}
		}
	}
}

func (p plainOrder) has(j int64) bool { return 0 <= j && j < int64(len(p.edges)) }

func (p plainOrder) edgesInto(j int64) []int64 {
	if !p.has(j) {
		return nil
	}
	return p.edges[j]
}

func (p plainOrder) beforesOf(j int64) []int64 {
	var all []int64
	for i := range p.edges {
		if p.ordered(int64(i), j) {
			all = append(all, int64(i))
		}
	}
	return all
}

func (p plainOrder) ordered(i int64, j int64) bool { return p.has(i) && p.has(j) && p.befores[j][i] }

func (p plainOrder) atOnce() int64 {
	n := int64(0)
	for j := range p.edges {
		for i := range j {
			if !p.befores[j][i] && !p.befores[i][j] {
				n++
			}
		}
	}
	return n
}

// edges fails where just these edges do not lead into an event, rising.
func edges(t *testing.T, what string, list []impl.Event, j int64, want ...int64) {
	t.Helper()
	if got := impl.EdgesInto(list, j); !slices.Equal(got, want) {
		t.Fatalf("%s: the edges into %d of %+v are %v, not %v", what, j, list, got, want)
	}
}

// befores fails where just these are not before an event, rising.
func befores(t *testing.T, what string, list []impl.Event, j int64, want ...int64) {
	t.Helper()
	if got := impl.BeforesOf(list, j); !slices.Equal(got, want) {
		t.Fatalf("%s: before %d of %+v are %v, not %v", what, j, list, got, want)
	}
}

func ordered(t *testing.T, what string, list []impl.Event, i int64, j int64, want bool) {
	t.Helper()
	if got := impl.Ordered(list, i, j); got != want {
		t.Fatalf("%s: %d is ahead of %d in %+v: %v", what, i, j, list, got)
	}
}

func atOnce(t *testing.T, what string, list []impl.Event, want int64) {
	t.Helper()
	if got := impl.AtOnce(list); got != want {
		t.Fatalf("%s: %d pairs at once in %+v, not %d", what, got, list, want)
	}
}

// orderAsPlain holds a list, at all places, against the plain model.
func orderAsPlain(t *testing.T, what string, list []impl.Event) plainOrder {
	t.Helper()
	p := plainOrderOf(list)
	given := padded(list, spareEvent)
	for _, j := range placesOf(list) {
		edges(t, what, given, j, p.edgesInto(j)...)
		befores(t, what, given, j, p.beforesOf(j)...)
	}
	atOnce(t, what, given, p.atOnce())
	staysPadded(t, what, given, list, spareEvent)
	return p
}

// pairsAsPlain holds each pair of places, also such as are none, against the plain model.
func pairsAsPlain(t *testing.T, what string, list []impl.Event) {
	t.Helper()
	p := orderAsPlain(t, what, list)
	given := padded(list, spareEvent)
	for i := int64(-2); i <= int64(len(list))+1; i++ {
		for j := int64(-2); j <= int64(len(list))+1; j++ {
			ordered(t, what, given, i, j, p.ordered(i, j))
		}
	}
	staysPadded(t, what, given, list, spareEvent)
}

// storyEdges are the edges into the events of storyOfEveryKind, place by place.
func storyEdges() [][]int64 {
	return [][]int64{
		nil,
		{0},
		{0},
		{1},
		{1, 3},
		{1, 4},
		{2},
		{6},
		{0, 1},
		{1, 5, 7},
		{0, 1, 8, 9},
		{0, 10},
		{7, 8},
		{11, 12},
		{13},
		{0, 11},
		{0, 15},
		{1, 10, 16},
		{1, 17},
		{1, 18},
		{1, 19},
		{0, 16},
		{0, 21},
		{1, 20, 22},
		{0, 22},
		{1, 23},
		{0, 24},
	}
}

func TestEdgesIntoEveryKind(t *testing.T) {
	list := storyOfEveryKind()
	for j, want := range storyEdges() {
		edges(t, "a story", list, int64(j), want...)
	}
	if len(storyEdges()) != len(list) {
		t.Error(len(list))
	}
	befores(t, "a story", list, 3, 0, 1)
	befores(t, "a story", list, 8, 0, 1)
	befores(t, "a story", list, 9, 0, 1, 2, 3, 4, 5, 6, 7)
	befores(t, "a story", list, 12, 0, 1, 2, 6, 7, 8)
	befores(t, "a story", list, 17, 0, 1, 2, 3, 4, 5, 6, 7, 8, 9, 10, 11, 15, 16)
	befores(t, "a story", list, 21, 0, 1, 2, 3, 4, 5, 6, 7, 8, 9, 10, 11, 15, 16)
	pairsAsPlain(t, "a story", list)
}

// Each Kind with each Obj, by a goroutine that was started, behind others that give to all there is of that Obj.
func TestEdgesIntoEveryKindOfEveryObj(t *testing.T) {
	for obj := range int64(16) {
		gives := []impl.Event{
			{Kind: impl.EvLock, Obj: obj}, {Kind: impl.EvUnlock, Obj: obj}, {Kind: impl.EvRLock, Obj: obj}, {Kind: impl.EvRUnlock, Obj: obj},
			{Kind: impl.EvAdd, Obj: obj, Size: 1}, {Kind: impl.EvDone, Obj: obj}, {Kind: impl.EvStore, Obj: obj}, {Kind: impl.EvSwap, Obj: obj},
		}
		for i, way := range waysTo(obj) {
			list := slices.Concat([]impl.Event{{Kind: impl.EvGo, Obj: 1}}, gives, way)
			if impl.LegalLen(list) != int64(len(list)) {
				t.Fatalf("%+v", list)
			}
			orderAsPlain(t, fmt.Sprint("Kind ", i+1), list)
		}
	}
}

// A handing is what two goroutines do of which neither started the other one: is all of the first one's ahead of what the second one did last?
type handing struct {
	what   string
	ahead  []impl.Event
	first  []impl.Event
	second []impl.Event
	want   bool
}

// trace lays it out: what is ahead, by goroutine 0; the starts; a write by 1, what it does, what 2 does, a write by 2.
func (h handing) trace() (list []impl.Event, i int64, j int64) {
	by := func(gor int64, all []impl.Event) {
		for _, e := range all {
			e.Gor = gor
			list = append(list, e)
		}
	}
	by(0, h.ahead)
	by(0, []impl.Event{{Kind: impl.EvGo, Obj: 1}, {Kind: impl.EvGo, Obj: 2}})
	i = int64(len(list))
	by(1, []impl.Event{{Kind: impl.EvWrite, Lo: 8, Size: 1}})
	by(1, h.first)
	by(2, h.second)
	j = int64(len(list))
	by(2, []impl.Event{{Kind: impl.EvWrite, Lo: 8, Size: 1}})
	return list, i, j
}

func lockHandings() []handing {
	ev := func(kinds ...int64) (list []impl.Event) {
		for _, kind := range kinds {
			list = append(list, impl.Event{Kind: kind, Obj: 3})
		}
		return list
	}
	other := []impl.Event{{Kind: impl.EvLock, Obj: 4}}
	return []handing{
		{"nothing", nil, nil, nil, false},
		{"locked, locked", nil, ev(impl.EvLock, impl.EvUnlock), ev(impl.EvLock), true},
		{"locked, read", nil, ev(impl.EvLock, impl.EvUnlock), ev(impl.EvRLock), true},
		{"read, locked", nil, ev(impl.EvRLock, impl.EvRUnlock), ev(impl.EvLock), true},
		{"read, read", nil, ev(impl.EvRLock, impl.EvRUnlock), ev(impl.EvRLock, impl.EvRUnlock), false},
		{"read while read", nil, ev(impl.EvRLock), ev(impl.EvRLock, impl.EvRUnlock), false},
		{"read and locked, read", nil, ev(impl.EvRLock, impl.EvRUnlock, impl.EvLock, impl.EvUnlock), ev(impl.EvRLock), true},
		{"locked, another one locked", nil, ev(impl.EvLock, impl.EvUnlock), other, false},
		{"locked for good, another one locked", nil, ev(impl.EvLock), other, false},
		{"locked, loaded and stored", nil, ev(impl.EvLock, impl.EvUnlock), ev(impl.EvLoad, impl.EvStore), false},
		{"stored, locked and unlocked", nil, ev(impl.EvStore), ev(impl.EvLock, impl.EvUnlock), false},
		{"stored, loaded", nil, ev(impl.EvStore), ev(impl.EvLoad), true},
		{"stored, swapped", nil, ev(impl.EvStore), ev(impl.EvSwap), true},
		{"stored, stored", nil, ev(impl.EvStore), ev(impl.EvStore), false},
		{"swapped, loaded", nil, ev(impl.EvSwap), ev(impl.EvLoad), true},
		{"swapped, swapped", nil, ev(impl.EvSwap), ev(impl.EvSwap), true},
		{"swapped, stored", nil, ev(impl.EvSwap), ev(impl.EvStore), false},
		{"loaded, loaded", nil, ev(impl.EvLoad), ev(impl.EvLoad), false},
		{"loaded, stored", nil, ev(impl.EvLoad), ev(impl.EvStore), false},
		{"loaded, swapped", nil, ev(impl.EvLoad), ev(impl.EvSwap), false},
		{"stored, another one loaded", nil, ev(impl.EvStore), []impl.Event{{Kind: impl.EvLoad, Obj: 4}}, false},
		{"once, seen", nil, ev(impl.EvOnce), ev(impl.EvSawOnce), true},
		{"seen, seen", ev(impl.EvOnce), ev(impl.EvSawOnce), ev(impl.EvSawOnce), false},
		{"once, another one seen", []impl.Event{{Kind: impl.EvOnce, Obj: 4}}, ev(impl.EvOnce), []impl.Event{{Kind: impl.EvSawOnce, Obj: 4}}, false},
	}
}

func otherHandings() []handing {
	of := func(size int64, kinds ...int64) []impl.Event {
		list := []impl.Event{{Kind: impl.EvMake, Obj: 3, Size: size}}
		for _, kind := range kinds {
			list = append(list, impl.Event{Kind: kind, Obj: 3})
		}
		return list
	}
	ev := func(kinds ...int64) []impl.Event { return of(0, kinds...)[1:] }
	add := func(n int64) []impl.Event { return []impl.Event{{Kind: impl.EvAdd, Obj: 3, Size: n}} }
	meet := func(with int64) []impl.Event { return []impl.Event{{Kind: impl.EvMeet, Obj: 3, With: with}} }
	access := func(kind int64) []impl.Event { return []impl.Event{{Kind: kind, Lo: 8, Size: 1}} }
	return []handing{
		{"sent, received", of(2), ev(impl.EvSend), ev(impl.EvRecv), true},
		{"sent, sent", of(2), ev(impl.EvSend), ev(impl.EvSend), false},
		{"received, received", of(2, impl.EvSend, impl.EvSend), ev(impl.EvRecv), ev(impl.EvRecv), false},
		{"received, sent into that slot", of(1, impl.EvSend), ev(impl.EvRecv), ev(impl.EvSend), true},
		{"received, sent into another slot", of(2, impl.EvSend), ev(impl.EvRecv), ev(impl.EvSend), false},
		{"received, sent into that slot, round", of(2, impl.EvSend, impl.EvSend), ev(impl.EvRecv), ev(impl.EvSend), true},
		{"sent, what was sent ahead of it received", of(2, impl.EvSend), ev(impl.EvSend), ev(impl.EvRecv), false},
		{"sent, both received", of(2, impl.EvSend), ev(impl.EvSend), ev(impl.EvRecv, impl.EvRecv), true},
		{"sent round, received in that slot", of(1, impl.EvSend, impl.EvRecv, impl.EvSend, impl.EvRecv), ev(impl.EvSend), ev(impl.EvRecv), true},
		{"made, sent", nil, of(2), ev(impl.EvSend, impl.EvRecv), false},
		{"made, closed and seen", nil, of(2), ev(impl.EvClose, impl.EvSawClose), false},
		{"closed, seen", of(2), ev(impl.EvClose), ev(impl.EvSawClose), true},
		{"closed, received", of(2, impl.EvSend), ev(impl.EvClose), ev(impl.EvRecv), false},
		{"closed, received and seen", of(2, impl.EvSend), ev(impl.EvClose), ev(impl.EvRecv, impl.EvSawClose), true},
		{"seen, seen", of(0, impl.EvClose), ev(impl.EvSawClose), ev(impl.EvSawClose), false},
		{"sent, closed", of(2), ev(impl.EvSend), ev(impl.EvClose), false},
		{"done, waited", add(1), ev(impl.EvDone), ev(impl.EvWait), true},
		{"done, done", add(2), ev(impl.EvDone), ev(impl.EvDone), false},
		{"done, done and waited", add(2), ev(impl.EvDone), ev(impl.EvDone, impl.EvWait), true},
		{"added, done and waited", nil, add(1), ev(impl.EvDone, impl.EvWait), false},
		{"waited, waited", add(1)[:0], ev(impl.EvWait), ev(impl.EvWait), false},
		{"waited, added", nil, ev(impl.EvWait), add(1), false},
		{"done, another one waited", add(1), ev(impl.EvDone), []impl.Event{{Kind: impl.EvWait, Obj: 4}}, false},
		{"met by the first", of(0), meet(2), nil, true},
		{"met by the second", of(0), nil, meet(1), true},
		{"met by another one each", of(0), meet(0), nil, false},
		{"met one behind the other", of(0), meet(0), meet(0), true},
		{"made, met by another one", nil, of(0), meet(0), false},
		{"met, closed and seen", of(0), meet(0), ev(impl.EvClose, impl.EvSawClose), false},
		{"another one started", nil, []impl.Event{{Kind: impl.EvGo, Obj: 3}}, nil, false},
		{"written, read", nil, access(impl.EvWrite), access(impl.EvRead), false},
		{"read, fresh", nil, access(impl.EvRead), access(impl.EvFresh), false},
	}
}

func TestHandings(t *testing.T) {
	for _, h := range append(lockHandings(), otherHandings()...) {
		list, i, j := h.trace()
		if impl.LegalLen(list) != int64(len(list)) {
			t.Fatalf("%s: %+v", h.what, list)
		}
		ordered(t, h.what, list, i, j, h.want)
		ordered(t, h.what+", the other way round", list, j, i, false)
		pairsAsPlain(t, h.what, list)
	}
}

// Meetings: both goroutines have one last event, and both have the meeting as theirs from then on.
func TestEdgesOfMeetings(t *testing.T) {
	list := []impl.Event{
		{Kind: impl.EvMake, Obj: 3},
		{Kind: impl.EvGo, Obj: 1},
		{Kind: impl.EvMeet, Obj: 3, With: 1},
		{Kind: impl.EvMeet, Gor: 1, Obj: 3},
		{Kind: impl.EvLoad, Gor: 1, Obj: 3},
		{Kind: impl.EvGo, Gor: 1, Obj: 2},
		{Kind: impl.EvLoad, Obj: 3},
		{Kind: impl.EvMeet, Gor: 2, Obj: 3},
		{Kind: impl.EvMeet, Gor: 2, Obj: 3, With: 1},
		{Kind: impl.EvLoad, Obj: 3},
		{Kind: impl.EvMeet, Gor: 1, Obj: 3, With: 2},
		{Kind: impl.EvWrite, Gor: 1, Size: 1},
		{Kind: impl.EvWrite, Gor: 2, Size: 1},
		{Kind: impl.EvMeet, Obj: 3, With: 2},
	}
	for j, want := range [][]int64{nil, {0}, {1}, {1, 2}, {1, 3}, {1, 4}, {3}, {5, 6}, {1, 5, 7}, {7}, {1, 5, 8}, {1, 10}, {5, 10}, {5, 9, 12}} {
		edges(t, "meetings", list, int64(j), want...)
	}
	befores(t, "meetings", list, 7, 0, 1, 2, 3, 4, 5, 6)
	befores(t, "meetings", list, 10, 0, 1, 2, 3, 4, 5, 6, 7, 8)
	befores(t, "meetings", list, 9, 0, 1, 2, 3, 4, 5, 6, 7)
	befores(t, "meetings", list, 13, 0, 1, 2, 3, 4, 5, 6, 7, 8, 9, 10, 12)
	atOnce(t, "meetings", list, 8)
	pairsAsPlain(t, "meetings", list)
}

// Two that meet who did nothing ahead: their starts alone lead there, each once.
func TestEdgesOfFirstMeetings(t *testing.T) {
	list := []impl.Event{
		{Kind: impl.EvMake, Obj: 3},
		{Kind: impl.EvGo, Obj: 1},
		{Kind: impl.EvGo, Gor: 1, Obj: 2},
		{Kind: impl.EvGo, Obj: 3},
		{Kind: impl.EvMeet, Gor: 2, Obj: 3, With: 3},
		{Kind: impl.EvMeet, Gor: 3, Obj: 3, With: 2},
		{Kind: impl.EvMeet, Gor: 3, Obj: 3, With: 1},
		{Kind: impl.EvGo, Gor: 2, Obj: 4},
		{Kind: impl.EvMeet, Gor: 4, Obj: 3, With: 2},
		{Kind: impl.EvMeet, Gor: 1, Obj: 3, With: 4},
	}
	for j, want := range [][]int64{nil, {0}, {1}, {1}, {2, 3}, {2, 3, 4}, {1, 2, 3, 5}, {2, 5}, {2, 7}, {1, 6, 7, 8}} {
		edges(t, "first meetings", list, int64(j), want...)
	}
	pairsAsPlain(t, "first meetings", list)
}

// A start leads into the first event of the one started, and into each later one.
func TestEdgesOfStarts(t *testing.T) {
	list := []impl.Event{
		{Kind: impl.EvGo, Obj: 1},
		{Kind: impl.EvLoad, Obj: 2},
		{Kind: impl.EvGo, Gor: 1, Obj: 2},
		{Kind: impl.EvGo, Gor: 2, Obj: 3},
		{Kind: impl.EvLoad, Gor: 3, Obj: 2},
		{Kind: impl.EvLoad, Gor: 1, Obj: 2},
		{Kind: impl.EvLoad, Gor: 3, Obj: 2},
		{Kind: impl.EvLoad, Gor: 2, Obj: 2},
		{Kind: impl.EvLoad, Gor: 3, Obj: 2},
		{Kind: impl.EvLoad, Obj: 2},
	}
	for j, want := range [][]int64{nil, {0}, {0}, {2}, {3}, {0, 2}, {3, 4}, {2, 3}, {3, 6}, {1}} {
		edges(t, "starts", list, int64(j), want...)
	}
	befores(t, "starts", list, 8, 0, 2, 3, 4, 6)
	befores(t, "starts", list, 9, 0, 1)
	befores(t, "starts", list, 5, 0, 2)
	ordered(t, "what the starter did later", list, 1, 4, false)
	ordered(t, "what the starter did later", list, 5, 7, false)
	pairsAsPlain(t, "starts", list)
}

// As many goroutines as there may be, each started by the one ahead of it, and all of them by the first one.
func TestEdgesOfSixteenGoroutines(t *testing.T) {
	var chain, fan []impl.Event
	for g := range int64(15) {
		chain = append(chain, impl.Event{Kind: impl.EvGo, Gor: g, Obj: g + 1})
		fan = append(fan, impl.Event{Kind: impl.EvGo, Obj: g + 1})
	}
	for g := range int64(16) {
		chain = append(chain, impl.Event{Kind: impl.EvLoad, Gor: g}, impl.Event{Kind: impl.EvLoad, Gor: g})
		fan = append(fan, impl.Event{Kind: impl.EvLoad, Gor: g}, impl.Event{Kind: impl.EvLoad, Gor: g})
	}
	for g := int64(1); g < 15; g++ {
		edges(t, "a chain", chain, g, g-1)
		edges(t, "a chain", chain, 15+2*g, g-1, g)
		edges(t, "a fan", fan, 15+2*g, g-1)
		edges(t, "a fan", fan, 16+2*g, g-1, 15+2*g)
	}
	edges(t, "a chain", chain, 45, 14)
	edges(t, "a fan", fan, 15, 14)
	pairsAsPlain(t, "a chain", chain)
	pairsAsPlain(t, "a fan", fan)
}

// All that give to one thing lead into who takes of it, not only the last one.
func TestEdgesOfSeveralGivings(t *testing.T) {
	list := []impl.Event{
		{Kind: impl.EvGo, Obj: 1},
		{Kind: impl.EvGo, Obj: 2},
		{Kind: impl.EvStore, Gor: 1, Obj: 7},
		{Kind: impl.EvStore, Obj: 7},
		{Kind: impl.EvStore, Gor: 1, Obj: 6},
		{Kind: impl.EvSwap, Gor: 1, Obj: 7},
		{Kind: impl.EvLoad, Gor: 2, Obj: 7},
		{Kind: impl.EvStore, Gor: 2, Obj: 7},
		{Kind: impl.EvLoad, Gor: 2, Obj: 7},
		{Kind: impl.EvSwap, Obj: 7},
		{Kind: impl.EvLoad, Obj: 7},
	}
	for j, want := range [][]int64{nil, {0}, {0}, {1}, {0, 2}, {0, 2, 3, 4}, {1, 2, 3, 5}, {1, 6}, {1, 2, 3, 5, 7}, {2, 3, 5, 7}, {2, 3, 5, 7, 9}} {
		edges(t, "an atomic", list, int64(j), want...)
	}
	pairsAsPlain(t, "an atomic", list)
	list = []impl.Event{
		{Kind: impl.EvGo, Obj: 1},
		{Kind: impl.EvAdd, Obj: 7, Size: 3},
		{Kind: impl.EvRLock, Obj: 7},
		{Kind: impl.EvRLock, Gor: 1, Obj: 7},
		{Kind: impl.EvDone, Gor: 1, Obj: 7},
		{Kind: impl.EvRUnlock, Gor: 1, Obj: 7},
		{Kind: impl.EvDone, Gor: 1, Obj: 7},
		{Kind: impl.EvRUnlock, Obj: 7},
		{Kind: impl.EvLock, Gor: 1, Obj: 7},
		{Kind: impl.EvDone, Obj: 7},
		{Kind: impl.EvUnlock, Gor: 1, Obj: 7},
		{Kind: impl.EvWait, Obj: 7},
		{Kind: impl.EvRLock, Obj: 7},
		{Kind: impl.EvRUnlock, Obj: 7},
		{Kind: impl.EvLock, Obj: 7},
	}
	for j, want := range [][]int64{nil, {0}, {1}, {0}, {0, 3}, {0, 4}, {0, 5}, {2}, {0, 5, 6, 7}, {7}, {0, 8}, {4, 6, 9}, {10, 11}, {12}, {5, 7, 10, 13}} {
		edges(t, "a lock and a group", list, int64(j), want...)
	}
	pairsAsPlain(t, "a lock and a group", list)
}

// Slots past the Cap: who sends into a slot again is behind all that sent into it and received of it.
func TestEdgesOfSlots(t *testing.T) {
	list := []impl.Event{
		{Kind: impl.EvMake, Obj: 5, Size: 2},
		{Kind: impl.EvGo, Obj: 1},
		{Kind: impl.EvSend, Obj: 5},
		{Kind: impl.EvSend, Obj: 5},
		{Kind: impl.EvRecv, Gor: 1, Obj: 5},
		{Kind: impl.EvSend, Obj: 5},
		{Kind: impl.EvRecv, Gor: 1, Obj: 5},
		{Kind: impl.EvRecv, Gor: 1, Obj: 5},
		{Kind: impl.EvSend, Gor: 1, Obj: 5},
		{Kind: impl.EvSend, Obj: 5},
		{Kind: impl.EvRecv, Obj: 5},
		{Kind: impl.EvClose, Obj: 5},
		{Kind: impl.EvRecv, Gor: 1, Obj: 5},
		{Kind: impl.EvSawClose, Gor: 1, Obj: 5},
	}
	for j, want := range [][]int64{nil, {0}, {1}, {2}, {1, 2}, {2, 3, 4}, {1, 3, 4}, {1, 2, 4, 5, 6}, {1, 3, 6, 7}, {2, 4, 5, 7}, {3, 6, 8, 9}, {10}, {1, 2, 4, 5, 7, 8, 9}, {1, 11, 12}} {
		edges(t, "slots", list, int64(j), want...)
	}
	pairsAsPlain(t, "slots", list)
	for room := int64(1); room <= 8; room++ {
		for _, row := range rowsFor(room) {
			used := append([]impl.Event{{Kind: impl.EvGo, Obj: 1}}, usedChannel(3, room, row)...)
			for j := range used {
				if used[j].Kind == impl.EvRecv {
					used[j].Gor = 1
				}
			}
			orderAsPlain(t, fmt.Sprint("Cap ", room), used)
		}
	}
}

// holdsTogether asks of promise 7 at every pair of events, and whether the four functions tell one order.
func holdsTogether(t *testing.T, what string, list []impl.Event) {
	t.Helper()
	size := impl.LegalLen(list)
	ahead := make([][]bool, size)
	for j := range size {
		ahead[j] = make([]bool, size)
		for _, i := range impl.BeforesOf(list, j) {
			ahead[j][i] = true
		}
		for _, i := range impl.EdgesInto(list, j) {
			if !ahead[j][i] {
				t.Fatalf("%s: an edge leads from %d, which is not before %d, in %+v", what, i, j, list)
			}
		}
	}
	pairs := int64(0)
	for j := range size {
		for i := range size {
			if impl.Ordered(list, i, j) != ahead[j][i] {
				t.Fatalf("%s: before %d of %+v is %v, but not by Ordered of %d", what, j, list, impl.BeforesOf(list, j), i)
			}
			if ahead[j][i] && (i >= j || ahead[i][j]) {
				t.Fatalf("%s: %d is ahead of %d in %+v", what, i, j, list)
			}
			if i < j && gorsMeet(list[i], list[j]) && !ahead[j][i] {
				t.Fatalf("%s: %d is of a goroutine of %d, but not ahead of it, in %+v", what, i, j, list)
			}
			for over := range size {
				if ahead[over][i] && ahead[j][over] && !ahead[j][i] {
					t.Fatalf("%s: %d is ahead of %d, this of %d, but %d is not, in %+v", what, i, over, j, i, list)
				}
			}
			if i < j && !ahead[j][i] {
				pairs++
			}
		}
	}
	atOnce(t, what, list, pairs)
}

func gorsMeet(a impl.Event, b impl.Event) bool {
	return slices.ContainsFunc(gorsByFields(a), func(gor int64) bool { return isOf(b, gor) })
}

// Promise 7, along legal traces and such as break off.
func TestOrderIsOne(t *testing.T) {
	holdsTogether(t, "a story", storyOfEveryKind())
	for walk := range int64(40) {
		d := dice(700 + walk)
		list := legalTrace(&d, int(20+d.below(50)), 1+d.below(8), 1+d.below(5))
		what := fmt.Sprint("walk ", walk)
		holdsTogether(t, what, list)
		pairsAsPlain(t, what, list)
		broken := slices.Insert(list, int(d.below(int64(len(list)))), impl.Event{Kind: impl.EvGo})
		holdsTogether(t, what+", broken off", broken)
		pairsAsPlain(t, what+", broken off", broken)
	}
}

// Many short traces, of as little as can order two.
func TestOrderOfShortTraces(t *testing.T) {
	some := []impl.Event{
		{Kind: impl.EvLoad}, {Kind: impl.EvLoad, Gor: 1}, {Kind: impl.EvStore}, {Kind: impl.EvSwap, Gor: 1}, {Kind: impl.EvGo, Gor: 1, Obj: 2},
		{Kind: impl.EvLock}, {Kind: impl.EvUnlock}, {Kind: impl.EvRLock, Gor: 1}, {Kind: impl.EvRUnlock, Gor: 1}, {Kind: impl.EvLock, Gor: 2},
		{Kind: impl.EvMake}, {Kind: impl.EvMeet, With: 1}, {Kind: impl.EvMeet, Gor: 2, With: 1}, {Kind: impl.EvWrite, Gor: 2, Size: 1},
	}
	list := []impl.Event{{Kind: impl.EvGo, Obj: 1}, {}, {}, {}}
	for _, list[1] = range some {
		for _, list[2] = range some {
			for _, list[3] = range some {
				p := plainOrderOf(list)
				for j := range int64(4) {
					edges(t, "short", list, j, p.edgesInto(j)...)
					befores(t, "short", list, j, p.beforesOf(j)...)
				}
				atOnce(t, "short", list, p.atOnce())
			}
		}
	}
}

func TestOrderOfLongTraces(t *testing.T) {
	met := map[int64]int{}
	for walk := range int64(8) {
		d := dice(70 + walk)
		list := legalTrace(&d, maxTrace, 1+walk*5%16, 2+walk)
		what := fmt.Sprint("walk ", walk)
		p := orderAsPlain(t, what, list)
		for range 400 {
			i, j := d.below(maxTrace), d.below(maxTrace)
			ordered(t, what, list, i, j, p.ordered(i, j))
		}
		for _, e := range list {
			met[e.Kind]++
		}
	}
	if len(met) != 22 {
		t.Errorf("%d Kinds", len(met))
	}
}

// handedOn is a trace of two goroutines that hand on to each other at each step, and of a third one, who hands on to nobody.
func handedOn(size int) []impl.Event {
	list := []impl.Event{{Kind: impl.EvGo, Obj: 1}, {Kind: impl.EvGo, Obj: 2}, {Kind: impl.EvStore}}
	for n := int64(0); len(list) < size; n++ {
		gor := 1 - n%2
		list = append(list, impl.Event{Kind: impl.EvLoad, Gor: gor, Obj: n % 16}, impl.Event{Kind: impl.EvWrite, Gor: 2, Size: 1}, impl.Event{Kind: impl.EvStore, Gor: gor, Obj: (n + 1) % 16})
	}
	return list[:size]
}

// Ways of many edges, as far as a trace reaches: all that was handed on is before each later step, and nothing else.
func TestWaysOfManyEdges(t *testing.T) {
	list := handedOn(maxTrace)
	var handed, alone []int64
	pairs := int64(0)
	for j := range int64(maxTrace) {
		what := fmt.Sprint("at ", j)
		if list[j].Gor == 2 {
			befores(t, what, list, j, append([]int64{0, 1}, alone...)...)
			pairs += int64(len(handed)) - 2
			alone = append(alone, j)
		} else {
			befores(t, what, list, j, handed...)
			pairs += int64(len(alone))
			handed = append(handed, j)
		}
		ordered(t, what, list, 0, j, j > 0)
		ordered(t, what, list, j, maxTrace-1, list[j].Gor != 2 && j != maxTrace-1)
	}
	atOnce(t, "all", list, pairs)
	orderAsPlain(t, "all", list)
}

// A giving at each place of the longest trace is told, wherever in it: into the last one, and into the one right behind it.
func TestOrderAtEachPlace(t *testing.T) {
	loads := append([]impl.Event{{Kind: impl.EvGo, Obj: 1}}, slices.Repeat([]impl.Event{{Kind: impl.EvLoad, Obj: 4}}, maxTrace-1)...)
	last := int64(maxTrace - 1)
	loads[last].Gor = 1
	edges(t, "none", loads, last, 0)
	for i := int64(1); i < last; i++ {
		list := slices.Clone(loads)
		list[i].Kind = impl.EvStore
		what := fmt.Sprint("a store at ", i)
		edges(t, what, list, last, 0, i)
		all := make([]int64, i+1)
		for k := range all {
			all[k] = int64(k)
		}
		befores(t, what, list, last, all...)
		ordered(t, what, list, i, last, true)
		ordered(t, what, list, i-1, last, true)
		ordered(t, what, list, i+1, last, false)
		atOnce(t, what, list, last-1-i)
	}
}

// What is done under a lock is ahead of what is done under it later.
func TestOrderUnderLocks(t *testing.T) {
	for walk := range int64(20) {
		d := dice(7000 + walk)
		list, under := lockedTrace(&d, 4, 3)
		if impl.LegalLen(list) != int64(len(list)) {
			t.Fatalf("walk %d: %+v", walk, list)
		}
		for _, a := range under {
			for _, b := range under {
				if a.obj == b.obj && a.at < b.at && (a.alone || b.alone) {
					ordered(t, fmt.Sprint("walk ", walk), list, a.at, b.at, true)
				}
			}
		}
		orderAsPlain(t, fmt.Sprint("walk ", walk), list)
	}
}

// An underLock is an access under a lock, which its goroutine has alone, or beside other readers.
type underLock struct {
	at    int64
	obj   int64
	alone bool
}

// lockedTrace lets goroutines lock, or read, write or read a byte, and go again, in an order that is thrown.
func lockedTrace(d *dice, gors int64, objs int64) (list []impl.Event, under []underLock) {
	for g := int64(1); g < gors; g++ {
		list = append(list, impl.Event{Kind: impl.EvGo, Obj: g})
	}
	had := make([]*underLock, gors)
	p := &plainScene{gors: gors}
	for len(list) < 120 {
		g := d.below(gors)
		if had[g] == nil {
			alone := d.below(2) == 0
			take := impl.Event{Kind: impl.EvRLock, Gor: g, Obj: d.below(objs)}
			if alone {
				take.Kind = impl.EvLock
			}
			if p.codeOf(take) == codeOk {
				p.do(take)
				list = append(list, take)
				had[g] = &underLock{obj: take.Obj, alone: alone}
			}
			continue
		}
		one := *had[g]
		one.at = int64(len(list))
		give := impl.Event{Kind: impl.EvRUnlock, Gor: g, Obj: one.obj}
		if one.alone {
			give.Kind = impl.EvUnlock
		}
		p.do(give)
		list = append(list, impl.Event{Kind: impl.EvWrite, Gor: g, Lo: one.obj, Size: 1}, give)
		under = append(under, one)
		had[g] = nil
	}
	return list, under
}

// Those who read under one lock are not ordered by it, one behind the other or at once.
func TestOrderOfReaders(t *testing.T) {
	list := []impl.Event{
		{Kind: impl.EvGo, Obj: 1},
		{Kind: impl.EvGo, Obj: 2},
		{Kind: impl.EvRLock, Gor: 1},
		{Kind: impl.EvRead, Gor: 1, Size: 1},
		{Kind: impl.EvRUnlock, Gor: 1},
		{Kind: impl.EvRLock, Gor: 2},
		{Kind: impl.EvRLock},
		{Kind: impl.EvRead, Gor: 2, Size: 1},
		{Kind: impl.EvRead, Size: 1},
		{Kind: impl.EvRUnlock},
		{Kind: impl.EvRUnlock, Gor: 2},
		{Kind: impl.EvLock, Gor: 1},
		{Kind: impl.EvWrite, Gor: 1, Size: 1},
	}
	for _, pair := range [][2]int64{{3, 7}, {3, 8}, {7, 8}, {4, 5}, {4, 6}, {9, 10}} {
		ordered(t, "readers", list, pair[0], pair[1], false)
		ordered(t, "readers", list, pair[1], pair[0], false)
	}
	befores(t, "readers", list, 12, 0, 1, 2, 3, 4, 5, 6, 7, 8, 9, 10, 11)
	pairsAsPlain(t, "readers", list)
}

func TestAtOnceExamples(t *testing.T) {
	load := func(gor int64) impl.Event { return impl.Event{Kind: impl.EvLoad, Gor: gor} }
	two := impl.Event{Kind: impl.EvGo, Obj: 1}
	for _, c := range []struct {
		what string
		list []impl.Event
		want int64
	}{
		{"nil", nil, 0},
		{"empty", []impl.Event{}, 0},
		{"one event", []impl.Event{load(0)}, 0},
		{"a start", []impl.Event{two}, 0},
		{"one that can't be done", []impl.Event{load(1)}, 0},
		{"the zero Event", []impl.Event{{}}, 0},
		{"two of one goroutine", []impl.Event{load(0), load(0)}, 0},
		{"a start and its first", []impl.Event{two, load(1)}, 0},
		{"one each", []impl.Event{two, load(0), load(1)}, 1},
		{"one each, the other way round", []impl.Event{two, load(1), load(0)}, 1},
		{"two and one", []impl.Event{two, load(1), load(0), load(1)}, 2},
		{"one that can't be done behind", []impl.Event{two, load(0), load(1), load(2), load(1)}, 1},
		{"one that can't be done between", []impl.Event{two, load(0), {}, load(1)}, 0},
	} {
		atOnce(t, c.what, c.list, c.want)
		pairsAsPlain(t, c.what, c.list)
	}
}

// One goroutine alone is in order, whatever it does.
func TestAtOnceOfOneGoroutine(t *testing.T) {
	for walk := range int64(6) {
		d := dice(770 + walk)
		list := legalTrace(&d, maxTrace, 1, 1+walk)
		atOnce(t, "one goroutine", list, 0)
		ordered(t, "one goroutine", list, 0, maxTrace-1, true)
		ordered(t, "one goroutine", list, maxTrace-2, maxTrace-1, true)
	}
}

// Goroutines that nothing orders, in turn or one behind the other, up to as many as there may be.
func TestAtOnceOfGoroutinesApart(t *testing.T) {
	for gors := int64(1); gors <= 16; gors++ {
		for _, each := range []int64{1, 2, 17} {
			var starts, inTurn, behind []impl.Event
			for g := int64(1); g < gors; g++ {
				starts = append(starts, impl.Event{Kind: impl.EvGo, Obj: g})
			}
			for n := range gors * each {
				inTurn = append(inTurn, impl.Event{Kind: impl.EvWrite, Gor: n % gors, Size: 8})
				behind = append(behind, impl.Event{Kind: impl.EvLoad, Gor: n / each})
			}
			apart := gors * (gors - 1) / 2 * each * each
			// Who was started is at once with each later start.
			apart += each * (gors - 1) * (gors - 2) / 2
			atOnce(t, fmt.Sprint(gors, " in turn"), slices.Concat(starts, inTurn), apart)
			atOnce(t, fmt.Sprint(gors, " one behind the other"), slices.Concat(starts, behind), apart)
		}
	}
}

func TestOrderOfNoEvent(t *testing.T) {
	for what, list := range map[string][]impl.Event{"nil": nil, "empty": {}, "emptied": storyOfEveryKind()[:0]} {
		for _, j := range placesOf(list) {
			edges(t, what, list, j)
			befores(t, what, list, j)
			for _, i := range placesOf(list) {
				ordered(t, what, list, i, j, false)
			}
		}
		atOnce(t, what, list, 0)
	}
}

// Places that a list does not have: none of them is ahead of any, nor is any ahead of them.
func TestOrderOfPlacesThatAreNone(t *testing.T) {
	list := storyOfEveryKind()
	p := plainOrderOf(list)
	for _, n := range placesOf(list) {
		for _, j := range []int64{0, 1, 17, int64(len(list) - 1)} {
			ordered(t, "as the first", list, n, j, p.ordered(n, j))
			ordered(t, "as the second", list, j, n, p.ordered(j, n))
		}
		ordered(t, "both", list, n, n, false)
		for _, m := range oddNumbers() {
			ordered(t, "any two", list, n, m, p.ordered(n, m))
		}
	}
	for n := range len(list) {
		for j := n; j < len(list)+3; j++ {
			edges(t, "behind the end", list[:n], int64(j))
			befores(t, "behind the end", list[:n], int64(j))
			ordered(t, "behind the end", list[:n], 0, int64(j), false)
			ordered(t, "behind the end", list[:n], int64(j), int64(n-1), false)
		}
	}
}

// A trace that breaks off: up to there all is as in its legal part, from there on nobody is ahead of anyone.
func TestOrderWhereATraceBreaksOff(t *testing.T) {
	ahead := []impl.Event{{Kind: impl.EvSwap, Obj: 14}, {Kind: impl.EvLock, Obj: 14}, {Kind: impl.EvStore, Obj: 14}}
	behind := []impl.Event{{Kind: impl.EvSwap, Obj: 14}, {Kind: impl.EvLoad}, {Kind: impl.EvStore, Obj: 14}}
	for _, c := range stopCases() {
		legal := slices.Concat(ahead, c.ahead)
		list := slices.Concat(legal, []impl.Event{c.stop}, behind)
		pairsAsPlain(t, c.what, list)
		for j := range int64(len(list)) {
			edges(t, c.what, list, j, impl.EdgesInto(legal, j)...)
			befores(t, c.what, list, j, impl.BeforesOf(legal, j)...)
			ordered(t, c.what, list, 0, j, 0 < j && j < int64(len(legal)) && impl.Ordered(legal, 0, j))
			ordered(t, c.what, list, j, int64(len(list)-1), false)
			ordered(t, c.what, list, 0, int64(len(legal)), false)
		}
		atOnce(t, c.what, list, impl.AtOnce(legal))
	}
}

func TestOrderWithWrongEvents(t *testing.T) {
	story := storyOfEveryKind()
	for k, e := range wrongEvents() {
		at := int64(k % (len(story) + 1))
		list := slices.Insert(slices.Clone(story), int(at), e)
		edges(t, "alone", []impl.Event{e}, 0)
		befores(t, "alone", []impl.Event{e}, 0)
		ordered(t, "alone", []impl.Event{e}, 0, 0, false)
		edges(t, "at", list, at)
		befores(t, "at", list, at)
		ordered(t, "at", list, 0, at, false)
		befores(t, "behind", list, int64(len(story)))
		if at > 0 {
			edges(t, "ahead", list, at-1, storyEdges()[at-1]...)
		}
		atOnce(t, "the legal part", list, impl.AtOnce(story[:at]))
	}
}

// At MaxEvents all are told of; with one more it is no trace, and nobody is ahead of anyone.
func TestOrderAtMaxEvents(t *testing.T) {
	d := dice(7)
	rich := legalTrace(&d, maxTrace+1, 16, 9)
	broken := append(slices.Clone(rich[:maxTrace]), impl.Event{})
	for what, list := range map[string][]impl.Event{"handed on": handedOn(maxTrace + 1), "rich": rich, "broken off at the last one": broken} {
		for _, size := range []int{maxTrace - 1, maxTrace} {
			p := orderAsPlain(t, what, list[:size])
			last := int64(size - 1)
			ordered(t, what, list[:size], 0, last, p.ordered(0, last))
			ordered(t, what, list[:size], last-1, last, p.ordered(last-1, last))
			if len(impl.BeforesOf(list[:size], last)) == 0 || len(impl.EdgesInto(list[:size], last)) == 0 {
				t.Errorf("%s: nothing is ahead of the last one of %d", what, size)
			}
		}
		for _, j := range placesOf(list) {
			edges(t, what+", one more", list, j)
			befores(t, what+", one more", list, j)
			ordered(t, what+", one more", list, 0, j, false)
			ordered(t, what+", one more", list, j-1, j, false)
		}
		atOnce(t, what+", one more", list, 0)
	}
	for _, size := range []int{maxTrace + 2, 320, 321, 2 * maxTrace, 1<<16 + 1, 1<<16 + maxTrace} {
		long := slices.Repeat([]impl.Event{{Kind: impl.EvSwap}}, size)
		for _, j := range []int64{-1, 0, 1, maxTrace - 1, maxTrace, maxTrace + 1, 319, 320, int64(size) - 1, int64(size)} {
			edges(t, fmt.Sprint(size, " swaps"), long, j)
			befores(t, fmt.Sprint(size, " swaps"), long, j)
			ordered(t, fmt.Sprint(size, " swaps"), long, 0, j, false)
		}
		atOnce(t, fmt.Sprint(size, " swaps"), long, 0)
	}
}

// Who is ahead of an event hangs on what is ahead of it alone.
func TestOrderHangsOnWhatIsAheadAlone(t *testing.T) {
	d := dice(77)
	for _, list := range [][]impl.Event{storyOfEveryKind(), legalTrace(&d, 40, 4, 4)} {
		for j := range list {
			at := int64(j)
			upTo := list[: j+1 : j+1]
			into, before := impl.EdgesInto(upTo, at), impl.BeforesOf(upTo, at)
			for _, tail := range behindThem() {
				edges(t, "with others behind it", append(upTo, tail...), at, into...)
				befores(t, "with others behind it", append(upTo, tail...), at, before...)
			}
			for n := j + 1; n <= len(list); n++ {
				edges(t, "with fewer behind it", list[:n], at, into...)
				befores(t, "with fewer behind it", list[:n], at, before...)
			}
		}
	}
}

// Promise 22: an answer shares no memory with the list, nor with another answer.
func TestOrderIsNewMemory(t *testing.T) {
	d := dice(78)
	asks := map[string]func([]impl.Event, int64) []int64{"edges": impl.EdgesInto, "befores": impl.BeforesOf}
	for _, list := range [][]impl.Event{nil, storyOfEveryKind(), handedOn(90), legalTrace(&d, 60, 4, 4), {{}}, make([]impl.Event, maxTrace+1)} {
		for what, ask := range asks {
			given := padded(list, spareEvent)
			for j := int64(-1); j <= int64(len(list)); j++ {
				first := ask(given, j)
				want := slices.Clone(first)
				spoil(ask(given, j))
				if !slices.Equal(first, want) {
					t.Fatalf("%s at %d: a write to a second answer makes %v of %v", what, j, first, want)
				}
				spoil(first)
				again := ask(given, j)
				staysPadded(t, fmt.Sprint(what, " at ", j), given, list, spareEvent)
				spoilWith(given, impl.Event{Kind: impl.EvGo, Obj: 1})
				if !slices.Equal(again, want) {
					t.Fatalf("%s at %d: behind writes to an answer and to the list %v is told, not %v", what, j, again, want)
				}
				given = padded(list, spareEvent)
			}
		}
	}
}

// What stands in the spare room is not looked at, and what is written there behind the call changes no answer.
func TestOrderAndTheSpareRoom(t *testing.T) {
	list := handedOn(30)
	p := plainOrderOf(list)
	for _, behind := range []impl.Event{{}, {Kind: impl.EvSwap}, {Kind: impl.EvStore, Gor: 1, Obj: 3}} {
		given := padded(list, behind)
		for j := int64(0); j < int64(len(list))+20; j++ {
			into, before := impl.EdgesInto(given, j), impl.BeforesOf(given, j)
			ordered(t, "spare room", given, 0, j, p.ordered(0, j))
			ordered(t, "spare room", given, j, j-1, p.ordered(j, j-1))
			atOnce(t, "spare room", given, p.atOnce())
			staysPadded(t, fmt.Sprint("at ", j), given, list, behind)
			spoilWith(given[len(given):], impl.Event{Kind: impl.EvLoad, Obj: 3})
			if !slices.Equal(into, p.edgesInto(j)) || !slices.Equal(before, p.beforesOf(j)) {
				t.Fatalf("at %d with %+v behind the list: %v and %v", j, behind, into, before)
			}
			edges(t, "written behind", given, j, into...)
			befores(t, "written behind", given, j, before...)
			spoilWith(given[len(given):], behind)
		}
	}
}

// What was asked ahead leaves nothing behind: an order is told anew in each call.
func TestOrderKeepsNothing(t *testing.T) {
	list, other := handedOn(60), storyOfEveryKind()
	p, q := plainOrderOf(list), plainOrderOf(other)
	for range 3 {
		for j := int64(len(list) - 1); j >= 0; j-- {
			edges(t, "from the last one on", list, j, p.edgesInto(j)...)
			befores(t, "another one", other, j, q.beforesOf(j)...)
			befores(t, "from the last one on", list, j, p.beforesOf(j)...)
			ordered(t, "another one", other, 0, j, q.ordered(0, j))
			atOnce(t, "too many", make([]impl.Event, maxTrace+1), 0)
			atOnce(t, "another one", other, q.atOnce())
		}
	}
}
