package tests

import (
	"fmt"
	"slices"
	"testing"

	"loop.example/g00720/impl"
)

// maxTrace is MaxEvents, written out apart from the program's constant.
const maxTrace = 300

// codeMany is EcMany, right behind the codes of a scene.
const codeMany = codeEnd

// A legal is what chapter 5 tells of a trace.
type legal struct {
	size  int64
	code  int64
	scene impl.Scene
	whole bool
}

func sameLegal(a legal, b legal) bool {
	return a.size == b.size && a.code == b.code && sameScene(a.scene, b.scene) && a.whole == b.whole
}

// toldOf asks the three functions.
func toldOf(list []impl.Event) legal {
	scene, whole := impl.SceneAfter(list)
	return legal{impl.LegalLen(list), impl.CodeOf(list), scene, whole}
}

// tooMany is what is told of a list that is no trace.
func tooMany() legal { return legal{size: -1, code: codeMany} }

// byDone tells a trace by Done alone, one event after the other.
func byDone(list []impl.Event) legal {
	s := impl.NewScene()
	for i, e := range list {
		next, code := impl.Done(s, e)
		if code != codeOk {
			return legal{int64(i), code, s, false}
		}
		s = next
	}
	return legal{int64(len(list)), codeOk, s, true}
}

// byPlainScene tells it without the program.
func byPlainScene(list []impl.Event) legal {
	p := &plainScene{gors: 1}
	for i, e := range list {
		if code := p.codeOf(e); code != codeOk {
			return legal{int64(i), code, p.told(), false}
		}
		p.do(e)
	}
	return legal{int64(len(list)), codeOk, p.told(), true}
}

// tells fails where a trace is not told so, where it is changed, or where memory is shared.
func tells(t *testing.T, what string, list []impl.Event, want legal) {
	t.Helper()
	given := padded(list, spareEvent)
	got := toldOf(given)
	if !sameLegal(got, want) {
		t.Fatalf("%s: of %+v is told %+v, not %+v", what, list, got, want)
	}
	staysPadded(t, what, given, list, spareEvent)
	spoilWith(given, impl.Event{Kind: impl.EvGo, Obj: 1})
	if !sameLegal(got, want) {
		t.Fatalf("%s: the answer %+v hangs on the argument: it became %+v", what, want, got)
	}
	given = padded(list, spareEvent)
	for _, write := range spoilersOf(toldOf(given).scene) {
		write()
	}
	staysPadded(t, what+", the answer written to", given, list, spareEvent)
	if got := toldOf(given); !sameLegal(got, want) {
		t.Fatalf("%s: behind a write to an answer, %+v is told, not %+v", what, got, want)
	}
}

// tellsAsDone holds a trace against Done and against the plain scene.
func tellsAsDone(t *testing.T, what string, list []impl.Event) {
	t.Helper()
	want := byDone(list)
	if plain := byPlainScene(list); !sameLegal(want, plain) {
		t.Fatalf("%s: %+v is %+v by Done, but %+v by the plain scene", what, list, want, plain)
	}
	tells(t, what, list, want)
	if !impl.SceneOk(want.scene) {
		t.Fatalf("%s: %+v is not SceneOk", what, want.scene)
	}
}

// firstPartsTell goes through all first parts of a trace: those of its legal part are legal, whole; behind it nothing is told any more.
func firstPartsTell(t *testing.T, what string, list []impl.Event) {
	t.Helper()
	s := impl.NewScene()
	code := int64(codeOk)
	size := int64(0)
	for n := range len(list) + 1 {
		want := legal{size, code, s, code == codeOk}
		if got := toldOf(list[:n]); !sameLegal(got, want) {
			t.Fatalf("%s: of the first %d of %+v is told %+v, not %+v", what, n, list, got, want)
		}
		if n == len(list) || code != codeOk {
			continue
		}
		if s, code = impl.Done(s, list[n]); code == codeOk {
			size++
		}
	}
	want := legal{size, codeOk, s, true}
	if got := toldOf(list[:impl.LegalLen(list)]); !sameLegal(got, want) {
		t.Fatalf("%s: of the legal part of %+v is told %+v, not %+v", what, list, got, want)
	}
}

// someOf are events of few goroutines and objects that a trace can go on with for long: each can be done in some scene.
func someOf(objs int64) []impl.Event {
	all := []impl.Event{{Kind: impl.EvRead, Lo: 7, Size: 8, Fn: 3, Site: 9}, {Kind: impl.EvWrite, Lo: 65535, Size: 8}, {Kind: impl.EvFresh, Lo: 3, Size: 64}}
	for obj := range objs {
		for kind := int64(impl.EvLock); kind <= impl.EvSwap; kind++ {
			all = append(all, impl.Event{Kind: kind, Obj: obj})
		}
	}
	for i, e := range all {
		switch e.Kind {
		case impl.EvMake:
			all[i].Size = e.Obj
		case impl.EvMeet:
			all[i].With = 1
		case impl.EvAdd:
			all[i].Size = 1 + e.Obj%9
		}
	}
	return all
}

// legalTrace throws events till that many were done one behind the other, from NewScene on.
func legalTrace(d *dice, size int, gors int64, objs int64) []impl.Event {
	var list []impl.Event
	p := &plainScene{gors: 1}
	beside := someOf(objs)
	for len(list) < size {
		e := beside[d.below(int64(len(beside)))]
		e.Gor = d.below(p.gors)
		if p.gors < gors && d.below(4) == 0 {
			e = impl.Event{Kind: impl.EvGo, Gor: e.Gor, Obj: p.gors}
		}
		if e.Kind == impl.EvMeet {
			e.With = d.below(p.gors)
		}
		if p.codeOf(e) == codeOk {
			p.do(e)
			list = append(list, e)
		}
	}
	return list
}

func TestCodeMany(t *testing.T) {
	if impl.EcMany != 11 || codeMany != 11 {
		t.Fatal(impl.EcMany, codeMany)
	}
}

func TestNoEventAtAll(t *testing.T) {
	want := legal{0, codeOk, impl.Scene{Gors: 1}, true}
	if !sameScene(want.scene, impl.NewScene()) {
		t.Fatal(impl.NewScene())
	}
	for what, list := range map[string][]impl.Event{"nil": nil, "empty": {}, "emptied": someOfEach()[:0]} {
		if got := toldOf(list); !sameLegal(got, want) {
			t.Errorf("%s: %+v, not %+v", what, got, want)
		}
		tells(t, what, list, want)
	}
}

// A story of every Kind, all of which can be done.
func storyOfEveryKind() []impl.Event {
	return []impl.Event{
		{Kind: impl.EvGo, Obj: 1},
		{Kind: impl.EvGo, Gor: 1, Obj: 2},
		{Kind: impl.EvMake, Obj: 4},
		{Kind: impl.EvMake, Gor: 2, Obj: 3, Size: 2},
		{Kind: impl.EvLock, Gor: 2, Obj: 5},
		{Kind: impl.EvRLock, Gor: 2, Obj: 3},
		{Kind: impl.EvRLock, Gor: 0, Obj: 3},
		{Kind: impl.EvSend, Obj: 3},
		{Kind: impl.EvSend, Gor: 1, Obj: 3},
		{Kind: impl.EvRecv, Gor: 2, Obj: 3},
		{Kind: impl.EvMeet, Gor: 1, Obj: 4, With: 2},
		{Kind: impl.EvClose, Gor: 1, Obj: 3},
		{Kind: impl.EvRecv, Obj: 3},
		{Kind: impl.EvSawClose, Obj: 3},
		{Kind: impl.EvAdd, Obj: 6, Size: 2},
		{Kind: impl.EvDone, Gor: 1, Obj: 6},
		{Kind: impl.EvOnce, Gor: 1, Obj: 8},
		{Kind: impl.EvSawOnce, Gor: 2, Obj: 8},
		{Kind: impl.EvUnlock, Gor: 2, Obj: 5},
		{Kind: impl.EvRUnlock, Gor: 2, Obj: 3},
		{Kind: impl.EvWait, Gor: 2, Obj: 7},
		{Kind: impl.EvLoad, Gor: 1, Obj: 9},
		{Kind: impl.EvStore, Gor: 1, Obj: 9},
		{Kind: impl.EvSwap, Gor: 2, Obj: 9},
		{Kind: impl.EvRead, Gor: 1, Lo: 3, Size: 4, Fn: 5, Site: 6},
		{Kind: impl.EvWrite, Gor: 2, Lo: 3, Size: 4, Fn: 5, Site: 6},
		{Kind: impl.EvFresh, Gor: 1, Lo: 3, Size: 4},
	}
}

func TestStoryOfEveryKind(t *testing.T) {
	list := storyOfEveryKind()
	want := impl.Scene{
		Gors:   3,
		Locks:  []impl.Lock{{Obj: 3, Writer: -1, Readers: []int64{0}}},
		Chans:  []impl.Chan{{Obj: 3, Cap: 2, Sent: 2, Got: 2, Closed: true}, {Obj: 4}},
		Groups: []impl.Count{{Obj: 6, N: 1}},
		Onces:  []int64{8},
	}
	tells(t, "a story", list, legal{int64(len(list)), codeOk, want, true})
	firstPartsTell(t, "a story", list)
	met := map[int64]bool{}
	for n, e := range list {
		met[e.Kind] = true
		tellsAsDone(t, "a story's first part", list[:n])
	}
	if len(met) != 22 {
		t.Errorf("%d Kinds", len(met))
	}
}

// One event alone: it is done, or it is the first one that can't be.
func TestTracesOfOneEvent(t *testing.T) {
	for _, e := range append(eventsBeside(), rightEvents()...) {
		tellsAsDone(t, "one event", []impl.Event{e})
	}
}

// Every trace of at most three of these events, each of which hangs on others of them.
func TestShortTraces(t *testing.T) {
	some := []impl.Event{
		{}, {Kind: impl.EvGo, Obj: 1}, {Kind: impl.EvGo, Gor: 1, Obj: 2},
		{Kind: impl.EvLock}, {Kind: impl.EvUnlock}, {Kind: impl.EvRLock}, {Kind: impl.EvRUnlock}, {Kind: impl.EvRLock, Gor: 1},
		{Kind: impl.EvMake}, {Kind: impl.EvMake, Size: 1}, {Kind: impl.EvSend}, {Kind: impl.EvRecv}, {Kind: impl.EvClose}, {Kind: impl.EvSawClose}, {Kind: impl.EvMeet, With: 1},
		{Kind: impl.EvAdd, Size: 1}, {Kind: impl.EvDone}, {Kind: impl.EvWait}, {Kind: impl.EvOnce}, {Kind: impl.EvSawOnce}, {Kind: impl.EvLoad, Gor: 1},
	}
	list := make([]impl.Event, 3)
	for _, list[0] = range some {
		for _, list[1] = range some {
			for _, list[2] = range some {
				want := byPlainScene(list)
				if got := toldOf(list); !sameLegal(got, want) || !sameLegal(byDone(list), want) {
					t.Fatalf("of %+v is told %+v, not %+v", list, got, want)
				}
			}
			tellsAsDone(t, "two events", list[:2])
		}
	}
}

// Promise 5, along long legal traces: all of one is legal, and so is each first part of it.
func TestLongLegalTraces(t *testing.T) {
	met := map[int64]int{}
	for walk := range int64(12) {
		d := dice(walk)
		list := legalTrace(&d, maxTrace, 1+walk*2%16, 1+walk%9)
		what := fmt.Sprint("walk ", walk)
		tellsAsDone(t, what, list)
		firstPartsTell(t, what, list)
		if got := impl.LegalLen(list); got != maxTrace {
			t.Errorf("%s: the legal part has %d events", what, got)
		}
		for _, e := range list {
			met[e.Kind]++
		}
	}
	for kind := int64(1); kind <= 22; kind++ {
		if met[kind] == 0 {
			t.Errorf("no event of Kind %d was done", kind)
		}
	}
}

// Promise 5, where anything is thrown in behind a legal part, or anywhere into it.
func TestTracesThatBreakOff(t *testing.T) {
	met := map[int64]int{}
	for walk := range int64(2000) {
		d := dice(1000 + walk)
		list := legalTrace(&d, int(d.below(60)), 1+d.below(6), 1+d.below(5))
		thrown := append(someOf(2), d.event(3, 5), d.event(3, 5), d.event(3, 5))
		at := int(d.below(int64(len(list) + 1)))
		for range 1 + d.below(3) {
			list = slices.Insert(list, at, thrown[d.below(int64(len(thrown)))])
		}
		what := fmt.Sprint("walk ", walk)
		tellsAsDone(t, what, list)
		firstPartsTell(t, what, list)
		met[impl.CodeOf(list)]++
	}
	for code := int64(codeGor); code < codeEnd; code++ {
		if met[code] == 0 {
			t.Errorf("the code %d was never met: %v", code, met)
		}
	}
}

// What is left out of a legal trace makes those that hang on it illegal, or not: by Done it is told.
func TestLegalTracesWithOneLeftOut(t *testing.T) {
	d := dice(77)
	for _, list := range [][]impl.Event{storyOfEveryKind(), legalTrace(&d, 60, 4, 3)} {
		for at := range list {
			cut := slices.Delete(slices.Clone(list), at, at+1)
			tellsAsDone(t, fmt.Sprint("without ", at), cut)
			firstPartsTell(t, fmt.Sprint("without ", at), cut)
		}
	}
}

// A stopCase is an event that has that code behind what is ahead of it, all of which can be done.
type stopCase struct {
	what  string
	code  int64
	ahead []impl.Event
	stop  impl.Event
}

// stopCases have each code in every way that a trace can come to it (MaxCount is too far off for EvAdd and EvSend).
func stopCases() []stopCase {
	ev := func(kind int64, gor int64, obj int64) impl.Event { return impl.Event{Kind: kind, Gor: gor, Obj: obj} }
	held := func(size int64) impl.Event { return impl.Event{Kind: impl.EvMake, Obj: 3, Size: size} }
	add := impl.Event{Kind: impl.EvAdd, Obj: 3, Size: 1}
	two := ev(impl.EvGo, 0, 1)
	list := func(all ...impl.Event) []impl.Event { return all }
	return []stopCase{
		{"no Kind", codeEvent, nil, impl.Event{}},
		{"a Kind too many", codeEvent, nil, ev(23, 0, 0)},
		{"a field too many", codeEvent, nil, impl.Event{Kind: impl.EvLoad, With: 1}},
		{"a goroutine too many", codeEvent, nil, ev(impl.EvLoad, 16, 0)},
		{"an Obj below 0, held", codeEvent, list(ev(impl.EvLock, 0, 3)), ev(impl.EvLock, 0, -3)},
		{"no goroutine", codeGor, nil, ev(impl.EvLoad, 1, 0)},
		{"no goroutine behind two", codeGor, list(two), ev(impl.EvLoad, 2, 0)},
		{"started twice", codeGor, nil, ev(impl.EvGo, 0, 0)},
		{"started once more", codeGor, list(two), two},
		{"one passed over", codeGor, nil, ev(impl.EvGo, 0, 2)},
		{"met by itself", codeGor, list(held(0)), ev(impl.EvMeet, 0, 3)},
		{"met by none", codeGor, list(held(0)), impl.Event{Kind: impl.EvMeet, Obj: 3, With: 1}},
		{"no goroutine, a lock that is held", codeGor, list(ev(impl.EvLock, 0, 3)), ev(impl.EvLock, 1, 3)},
		{"locked twice", codeHeld, list(ev(impl.EvLock, 0, 3)), ev(impl.EvLock, 0, 3)},
		{"locked by two", codeHeld, list(two, ev(impl.EvLock, 1, 3)), ev(impl.EvLock, 0, 3)},
		{"read while written", codeHeld, list(two, ev(impl.EvLock, 1, 3)), ev(impl.EvRLock, 0, 3)},
		{"written while read", codeHeld, list(two, ev(impl.EvRLock, 1, 3)), ev(impl.EvLock, 0, 3)},
		{"read twice", codeHeld, list(two, ev(impl.EvRLock, 0, 3), ev(impl.EvRLock, 1, 3)), ev(impl.EvRLock, 0, 3)},
		{"not locked", codeNot, nil, ev(impl.EvUnlock, 0, 3)},
		{"not read", codeNot, nil, ev(impl.EvRUnlock, 0, 3)},
		{"locked by another one", codeNot, list(two, ev(impl.EvLock, 1, 3)), ev(impl.EvUnlock, 0, 3)},
		{"unlocked twice", codeNot, list(ev(impl.EvLock, 0, 3), ev(impl.EvUnlock, 0, 3)), ev(impl.EvUnlock, 0, 3)},
		{"read, given back as written", codeNot, list(ev(impl.EvRLock, 0, 3)), ev(impl.EvUnlock, 0, 3)},
		{"no channel to send to", codeChan, nil, ev(impl.EvSend, 0, 3)},
		{"no channel to close", codeChan, nil, ev(impl.EvClose, 0, 3)},
		{"made twice", codeChan, list(held(1)), held(1)},
		{"sent to one of Cap 0", codeChan, list(held(0)), ev(impl.EvSend, 0, 3)},
		{"received of one of Cap 0", codeChan, list(held(0)), ev(impl.EvRecv, 0, 3)},
		{"met over one of Cap 1", codeChan, list(two, held(1)), impl.Event{Kind: impl.EvMeet, Obj: 3, With: 1}},
		{"closed twice", codeClosed, list(held(0), ev(impl.EvClose, 0, 3)), ev(impl.EvClose, 0, 3)},
		{"sent to one that is closed", codeClosed, list(held(1), ev(impl.EvClose, 0, 3)), ev(impl.EvSend, 0, 3)},
		{"sent to one that is closed and full", codeClosed, list(held(1), ev(impl.EvSend, 0, 3), ev(impl.EvClose, 0, 3)), ev(impl.EvSend, 0, 3)},
		{"met over one that is closed", codeClosed, list(two, held(0), ev(impl.EvClose, 0, 3)), impl.Event{Kind: impl.EvMeet, Obj: 3, With: 1}},
		{"seen closed, but open", codeClosed, list(held(1)), ev(impl.EvSawClose, 0, 3)},
		{"sent at Cap 1", codeFull, list(held(1), ev(impl.EvSend, 0, 3)), ev(impl.EvSend, 0, 3)},
		{"sent at Cap 2", codeFull, list(held(2), ev(impl.EvSend, 0, 3), ev(impl.EvSend, 0, 3)), ev(impl.EvSend, 0, 3)},
		{"received of nothing", codeEmpty, list(held(1)), ev(impl.EvRecv, 0, 3)},
		{"received twice", codeEmpty, list(held(1), ev(impl.EvSend, 0, 3), ev(impl.EvRecv, 0, 3)), ev(impl.EvRecv, 0, 3)},
		{"seen closed, but not empty", codeEmpty, list(held(1), ev(impl.EvSend, 0, 3), ev(impl.EvClose, 0, 3)), ev(impl.EvSawClose, 0, 3)},
		{"done, but nothing to do", codeCount, nil, ev(impl.EvDone, 0, 3)},
		{"done twice", codeCount, list(add, ev(impl.EvDone, 0, 3)), ev(impl.EvDone, 0, 3)},
		{"waited too soon", codeCount, list(add), ev(impl.EvWait, 0, 3)},
		{"once, twice", codeOnce, list(ev(impl.EvOnce, 0, 3)), ev(impl.EvOnce, 0, 3)},
		{"once, not seen", codeOnce, nil, ev(impl.EvSawOnce, 0, 3)},
	}
}

// tailsBehind could be done, or can't be for another code: none of them may be told of.
func tailsBehind() [][]impl.Event {
	load := impl.Event{Kind: impl.EvLoad}
	all := [][]impl.Event{
		nil,
		{load},
		{load, {Kind: impl.EvLock, Obj: 15}, {Kind: impl.EvMake, Obj: 15, Size: 2}, {Kind: impl.EvOnce, Obj: 15}, {Kind: impl.EvAdd, Obj: 15, Size: 9}},
	}
	for _, c := range stopCases() {
		all = append(all, append(slices.Clone(c.ahead), c.stop), []impl.Event{c.stop, load})
	}
	return all
}

// stops holds a trace that can be done up to just that place against what was told ahead of it.
func stops(t *testing.T, c stopCase, ahead []impl.Event) {
	t.Helper()
	before := byDone(ahead)
	if !before.whole {
		t.Fatalf("%s: %+v has the code %d", c.what, ahead, before.code)
	}
	want := legal{int64(len(ahead)), c.code, before.scene, false}
	for _, tail := range tailsBehind() {
		list := slices.Concat(ahead, []impl.Event{c.stop}, tail)
		if len(list) > maxTrace {
			list = list[:maxTrace]
		}
		tells(t, fmt.Sprintf("%s at %d of %d", c.what, len(ahead), len(list)), list, want)
	}
	for n := range len(ahead) + 1 {
		if got := toldOf(ahead[:n]); got.code != codeOk || got.size != int64(n) || !got.whole {
			t.Fatalf("%s: of the first %d of %+v is told %+v", c.what, n, ahead, got)
		}
	}
}

// Where nothing must be ahead of it, the event stands at the first place; else right behind what must be.
func TestStopsAtTheFirstPlace(t *testing.T) {
	first := map[int64]int{}
	met := map[int64]int{}
	for _, c := range stopCases() {
		stops(t, c, c.ahead)
		met[c.code]++
		if len(c.ahead) == 0 {
			first[c.code]++
		}
	}
	for code := int64(codeEvent); code < codeEnd; code++ {
		if met[code] == 0 {
			t.Errorf("no event has the code %d", code)
		}
	}
	for _, code := range []int64{codeEvent, codeGor, codeNot, codeChan, codeCount, codeOnce} {
		if first[code] == 0 {
			t.Errorf("no event has the code %d at the first place", code)
		}
	}
}

func TestStopsInTheMiddle(t *testing.T) {
	load := impl.Event{Kind: impl.EvLoad}
	other := []impl.Event{{Kind: impl.EvLock, Obj: 9}, {Kind: impl.EvMake, Obj: 9, Size: 1}, {Kind: impl.EvSend, Obj: 9}, {Kind: impl.EvAdd, Obj: 9, Size: 9}, {Kind: impl.EvOnce, Obj: 9}}
	for _, c := range stopCases() {
		stops(t, c, append(slices.Repeat([]impl.Event{load}, 7), c.ahead...))
		stops(t, c, slices.Concat(other, c.ahead, []impl.Event{load, {Kind: impl.EvRLock, Obj: 8}}))
	}
}

// The last place of a short trace, and that of one that has just as many events as may be.
func TestStopsAtTheLastPlace(t *testing.T) {
	load := impl.Event{Kind: impl.EvLoad}
	for _, c := range stopCases() {
		for _, size := range []int{12, maxTrace - 2, maxTrace - 1} {
			ahead := append(slices.Clone(c.ahead), slices.Repeat([]impl.Event{load}, size-len(c.ahead))...)
			want := legal{int64(size), c.code, byPlainScene(ahead).scene, false}
			tells(t, fmt.Sprint(c.what, " at ", size), append(slices.Clone(ahead), c.stop), want)
			tells(t, fmt.Sprint(c.what, " is not at ", size), ahead, legal{int64(size), codeOk, want.scene, true})
		}
	}
}

// Events of which one field, or the Kind, is wrong, at each place of a story.
func TestStopsAtWrongEvents(t *testing.T) {
	story := storyOfEveryKind()
	for i, e := range wrongEvents() {
		at := i % (len(story) + 1)
		list := slices.Insert(slices.Clone(story), at, e)
		tells(t, "a wrong event", list, legal{int64(at), codeEvent, byDone(story[:at]).scene, false})
		tells(t, "a wrong event alone", []impl.Event{e}, legal{0, codeEvent, impl.NewScene(), false})
	}
}

func TestTracesAtMaxEvents(t *testing.T) {
	load := []impl.Event{{Kind: impl.EvLoad}}
	d := dice(5)
	rich := legalTrace(&d, maxTrace+1, 16, 9)
	for what, list := range map[string][]impl.Event{"loads": slices.Repeat(load, maxTrace+1), "rich": rich} {
		for _, size := range []int{maxTrace - 1, maxTrace} {
			want := byPlainScene(list[:size])
			if want.size != int64(size) || !want.whole {
				t.Fatalf("%s: %+v", what, want)
			}
			tells(t, fmt.Sprint(what, ", ", size), list[:size], want)
		}
		tells(t, what+", one more", list, tooMany())
		if got := toldOf(list); !sameLegal(got, tooMany()) {
			t.Errorf("%s: %+v", what, got)
		}
	}
	for _, size := range []int{maxTrace + 1, maxTrace + 2, 2 * maxTrace, 1<<16 + 1, 1<<16 + maxTrace} {
		tells(t, fmt.Sprint(size, " loads"), slices.Repeat(load, size), tooMany())
		tells(t, fmt.Sprint(size, " zero events"), make([]impl.Event, size), tooMany())
	}
}

// One event too many is told ahead of any code, wherever an event stands that can't be done.
func TestTooManyEventsGoAhead(t *testing.T) {
	load := []impl.Event{{Kind: impl.EvLoad}}
	for _, c := range stopCases() {
		head := append(slices.Clone(c.ahead), c.stop)
		first := append(slices.Clone(head), slices.Repeat(load, maxTrace+1-len(head))...)
		middle := slices.Concat(slices.Repeat(load, maxTrace/2), head, slices.Repeat(load, maxTrace/2+1-len(head)))
		last := append(slices.Repeat(load, maxTrace+1-len(head)), head...)
		for what, list := range map[string][]impl.Event{"first": first, "middle": middle, "last": last} {
			if len(list) != maxTrace+1 {
				t.Fatal(what, len(list))
			}
			tells(t, c.what+", "+what, list, tooMany())
			tellsAsDone(t, c.what+", "+what+", one less", list[:maxTrace])
		}
		cut := legal{int64(len(c.ahead)), c.code, byDone(c.ahead).scene, false}
		tells(t, c.what+", one less", first[:maxTrace], cut)
	}
}

// listsOfLocks are traces whose scenes have Readers of several locks, alike and not.
func listsOfLocks() [][]impl.Event {
	readers := []impl.Event{{Kind: impl.EvGo, Obj: 1}, {Kind: impl.EvGo, Obj: 2}, {Kind: impl.EvGo, Obj: 3}}
	for _, obj := range []int64{2, 5, 6} {
		for _, gor := range []int64{3, 0, 2, 1} {
			readers = append(readers, impl.Event{Kind: impl.EvRLock, Gor: gor, Obj: obj})
		}
		readers = append(readers, impl.Event{Kind: impl.EvOnce, Obj: obj}, impl.Event{Kind: impl.EvMake, Obj: obj, Size: obj}, impl.Event{Kind: impl.EvAdd, Obj: obj, Size: obj})
	}
	fewer := append(slices.Clone(readers), impl.Event{Kind: impl.EvRUnlock, Gor: 3, Obj: 5}, impl.Event{Kind: impl.EvRUnlock, Gor: 0, Obj: 6})
	d := dice(9)
	return [][]impl.Event{nil, storyOfEveryKind(), readers, fewer, append(slices.Clone(fewer), impl.Event{}), legalTrace(&d, 200, 16, 9), make([]impl.Event, maxTrace+1)}
}

// Each list of an answer is by itself, and so is each answer.
func TestListsOfSceneAfterAreApart(t *testing.T) {
	for i, list := range listsOfLocks() {
		what := fmt.Sprint("trace ", i)
		given := padded(list, spareEvent)
		listsApart(t, what, func() impl.Scene {
			got, _ := impl.SceneAfter(given)
			return got
		})
		first, _ := impl.SceneAfter(given)
		second, _ := impl.SceneAfter(given)
		kept := roomyScene(first)
		for _, write := range spoilersOf(second) {
			write()
		}
		if !sameScene(first, kept) {
			t.Errorf("%s: a write to a second answer makes %+v of the first one, %+v", what, first, kept)
		}
		staysPadded(t, what, given, list, spareEvent)
	}
}

// What is written behind a list once it was told of changes no answer, and what stood there ahead of the call is not looked at.
func TestSpareRoomOfTraces(t *testing.T) {
	for i, list := range listsOfLocks() {
		if len(list) > maxTrace {
			continue
		}
		what := fmt.Sprint("trace ", i)
		want := byPlainScene(list)
		for _, behind := range []impl.Event{{}, {Kind: impl.EvLoad}, {Kind: impl.EvGo, Obj: 1}, {Kind: impl.EvStore, Gor: 15}} {
			given := padded(list, behind)
			got := toldOf(given)
			if !sameLegal(got, want) {
				t.Fatalf("%s with %+v behind it: %+v, not %+v", what, behind, got, want)
			}
			staysPadded(t, what, given, list, behind)
			spoilWith(given[len(given):cap(given)], impl.Event{Kind: impl.EvWrite, Size: 1})
			if again := toldOf(given); !sameLegal(got, want) || !sameLegal(again, want) {
				t.Fatalf("%s: behind a write to the spare room, %+v and %+v, not %+v", what, got, again, want)
			}
		}
	}
	full := padded(slices.Repeat([]impl.Event{{Kind: impl.EvLoad}}, maxTrace), impl.Event{Kind: impl.EvLoad})
	if got := toldOf(full); got.size != maxTrace || got.code != codeOk || !got.whole {
		t.Errorf("%d events with room for more: %+v", maxTrace, got)
	}
}

// A trace that broke off, or was too long, leaves nothing behind for the next call.
func TestTracesKeepNothing(t *testing.T) {
	story := storyOfEveryKind()
	want := byDone(story)
	for _, c := range stopCases() {
		toldOf(append(slices.Clone(c.ahead), c.stop))
		toldOf(make([]impl.Event, maxTrace+1))
		if got := toldOf(story); !sameLegal(got, want) {
			t.Fatalf("behind %s: %+v, not %+v", c.what, got, want)
		}
		if got := toldOf(nil); !sameLegal(got, byDone(nil)) {
			t.Fatalf("behind %s: of nil %+v", c.what, got)
		}
	}
}
