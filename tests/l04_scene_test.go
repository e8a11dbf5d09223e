package tests

import (
	"fmt"
	"math"
	"slices"
	"testing"

	"loop.example/g00720/impl"
)

// most is MaxCount, written out apart from the program's constant.
const most = 1000000

// The codes as the document numbers them, apart from the program's constants.
const (
	codeOk = iota
	codeEvent
	codeGor
	codeHeld
	codeNot
	codeChan
	codeClosed
	codeFull
	codeEmpty
	codeCount
	codeOnce
	codeEnd
)

// A plainChan is there where made is true.
type plainChan struct {
	made, closed   bool
	cap, sent, got int64
}

// A plainScene has room for every object there may be, so that nothing is ever put in order, added or taken out.
type plainScene struct {
	gors   int64
	writes [16][16]bool
	reads  [16][16]bool
	chans  [16]plainChan
	n      [16]int64
	once   [16]bool
}

func plainOf(s impl.Scene) *plainScene {
	p := &plainScene{gors: s.Gors}
	for _, l := range s.Locks {
		if l.Writer >= 0 {
			p.writes[l.Obj][l.Writer] = true
		}
		for _, g := range l.Readers {
			p.reads[l.Obj][g] = true
		}
	}
	for _, c := range s.Chans {
		p.chans[c.Obj] = plainChan{true, c.Closed, c.Cap, c.Sent, c.Got}
	}
	for _, c := range s.Groups {
		p.n[c.Obj] = c.N
	}
	for _, obj := range s.Onces {
		p.once[obj] = true
	}
	return p
}

func truesOf(flags [16]bool) []int64 {
	var all []int64
	for i, is := range flags {
		if is {
			all = append(all, int64(i))
		}
	}
	return all
}

func (p *plainScene) told() impl.Scene {
	s := impl.Scene{Gors: p.gors, Onces: truesOf(p.once)}
	for i := range int64(16) {
		if writers := truesOf(p.writes[i]); len(writers) > 0 {
			s.Locks = append(s.Locks, impl.Lock{Obj: i, Writer: writers[0]})
		} else if readers := truesOf(p.reads[i]); len(readers) > 0 {
			s.Locks = append(s.Locks, impl.Lock{Obj: i, Writer: -1, Readers: readers})
		}
		if c := p.chans[i]; c.made {
			s.Chans = append(s.Chans, impl.Chan{Obj: i, Cap: c.cap, Sent: c.sent, Got: c.got, Closed: c.closed})
		}
		if p.n[i] > 0 {
			s.Groups = append(s.Groups, impl.Count{Obj: i, N: p.n[i]})
		}
	}
	return s
}

// codesOf tells every code that applies, Kind by Kind, where the document goes code by code.
func (p *plainScene) codesOf(e impl.Event) [codeEnd]bool {
	var is [codeEnd]bool
	if !impl.EventOk(e) {
		is[codeEvent] = true
		return is
	}
	c := p.chans[e.Obj]
	written := slices.Contains(p.writes[e.Obj][:], true)
	read := slices.Contains(p.reads[e.Obj][:], true)
	is[codeGor] = e.Gor > p.gors-1
	switch e.Kind {
	case 1:
		is[codeGor] = is[codeGor] || e.Obj != p.gors
	case 2:
		is[codeHeld] = written || read
	case 3:
		is[codeNot] = !p.writes[e.Obj][e.Gor]
	case 4:
		is[codeHeld] = written || p.reads[e.Obj][e.Gor]
	case 5:
		is[codeNot] = !p.reads[e.Obj][e.Gor]
	case 6:
		is[codeChan] = c.made
	case 7:
		is[codeChan] = !c.made || c.cap < 1
		is[codeClosed] = c.closed
		is[codeFull] = c.sent == c.got+c.cap
		is[codeCount] = c.sent+1 > most
	case 8:
		is[codeChan] = !c.made || c.cap < 1
		is[codeEmpty] = c.sent == c.got
	case 9:
		is[codeGor] = is[codeGor] || e.With > p.gors-1 || e.With == e.Gor
		is[codeChan] = !c.made || c.cap > 0
		is[codeClosed] = c.closed
	case 10:
		is[codeChan] = !c.made
		is[codeClosed] = c.closed
	case 11:
		is[codeChan] = !c.made
		is[codeClosed] = !c.closed
		is[codeEmpty] = c.sent > c.got
	case 12:
		is[codeCount] = p.n[e.Obj]+e.Size > most
	case 13:
		is[codeCount] = p.n[e.Obj] == 0
	case 14:
		is[codeCount] = p.n[e.Obj] > 0
	case 15:
		is[codeOnce] = p.once[e.Obj]
	case 16:
		is[codeOnce] = !p.once[e.Obj]
	}
	return is
}

func (p *plainScene) codeOf(e impl.Event) int64 {
	codes := p.codesOf(e)
	return int64(max(slices.Index(codes[:], true), codeOk))
}

func (p *plainScene) do(e impl.Event) {
	switch e.Kind {
	case 1:
		p.gors++
	case 2, 3:
		p.writes[e.Obj][e.Gor] = e.Kind == 2
	case 4, 5:
		p.reads[e.Obj][e.Gor] = e.Kind == 4
	case 6:
		p.chans[e.Obj] = plainChan{made: true, cap: e.Size}
	case 7:
		p.chans[e.Obj].sent++
	case 8:
		p.chans[e.Obj].got++
	case 10:
		p.chans[e.Obj].closed = true
	case 12:
		p.n[e.Obj] += e.Size
	case 13:
		p.n[e.Obj]--
	case 15:
		p.once[e.Obj] = true
	}
}

func sameLock(a impl.Lock, b impl.Lock) bool {
	return a.Obj == b.Obj && a.Writer == b.Writer && slices.Equal(a.Readers, b.Readers)
}

func sameScene(a impl.Scene, b impl.Scene) bool {
	return a.Gors == b.Gors && slices.EqualFunc(a.Locks, b.Locks, sameLock) && slices.Equal(a.Chans, b.Chans) &&
		slices.Equal(a.Groups, b.Groups) && slices.Equal(a.Onces, b.Onces)
}

var spareLock = impl.Lock{Obj: 14, Writer: 0}
var spareChan = impl.Chan{Obj: 14, Cap: 8}
var spareCount = impl.Count{Obj: 14, N: 14}

// roomyScene is the scene in memory of its own, with spare room behind every list.
func roomyScene(s impl.Scene) impl.Scene {
	locks := padded(s.Locks, spareLock)
	for i, l := range locks {
		locks[i].Readers = roomy(l.Readers)
	}
	return impl.Scene{Gors: s.Gors, Locks: locks, Chans: padded(s.Chans, spareChan), Groups: padded(s.Groups, spareCount), Onces: roomy(s.Onces)}
}

// staysScene fails where a roomy scene, or the room behind one of its lists, is not as roomyScene made it.
func staysScene(t *testing.T, what string, got impl.Scene, was impl.Scene) {
	t.Helper()
	if !sameScene(got, was) {
		t.Fatalf("%s: the argument %+v became %+v", what, was, got)
	}
	for _, l := range got.Locks[len(got.Locks):cap(got.Locks)] {
		if !sameLock(l, spareLock) {
			t.Errorf("%s: %+v was written behind the Locks of %+v", what, l, was)
		}
	}
	for i, l := range got.Locks {
		stays(t, what+", Readers", l.Readers, was.Locks[i].Readers)
	}
	staysPadded(t, what+", Chans", got.Chans, was.Chans, spareChan)
	staysPadded(t, what+", Groups", got.Groups, was.Groups, spareCount)
	stays(t, what+", Onces", got.Onces, was.Onces)
}

// spoilersOf are the lists of a scene, each as a call that writes all over it and the room behind it.
func spoilersOf(s impl.Scene) []func() {
	all := []func(){
		func() { spoilWith(s.Chans, impl.Chan{Obj: -9, Cap: -9, Sent: -9, Got: -9, Closed: true}) },
		func() { spoilWith(s.Groups, impl.Count{Obj: -9, N: -9}) },
		func() { spoil(s.Onces) },
	}
	for _, l := range s.Locks {
		all = append(all, func() { spoil(l.Readers) })
	}
	return append(all, func() { spoilWith(s.Locks, impl.Lock{Obj: -9, Writer: -9, Readers: []int64{-9}}) })
}

// listsApart fails where a write to one list of a scene, or behind it, changes another list.
func listsApart(t *testing.T, what string, make func() impl.Scene) {
	t.Helper()
	for i := range spoilersOf(make()) {
		got, want := make(), make()
		spoilersOf(got)[i]()
		switch i {
		case 0:
			got.Chans = want.Chans
		case 1:
			got.Groups = want.Groups
		case 2:
			got.Onces = want.Onces
		case len(want.Locks) + 3:
			got.Locks = want.Locks
		default:
			got.Locks[i-3].Readers = want.Locks[i-3].Readers
		}
		if !sameScene(got, want) {
			t.Errorf("%s: a write to list %d of the answer %+v makes %+v of it", what, i, want, got)
		}
	}
}

// holds fails where CodeIn and Done don't answer this scene and this code, where an argument is changed, or where memory is shared.
func holds(t *testing.T, what string, s impl.Scene, e impl.Event, want impl.Scene, code int64) {
	t.Helper()
	given := roomyScene(s)
	if got := impl.CodeIn(given, e); got != code {
		t.Fatalf("%s: CodeIn(%+v, %+v) is %d, not %d", what, s, e, got, code)
	}
	staysScene(t, "CodeIn, "+what, given, s)
	got, told := impl.Done(given, e)
	if told != code || !sameScene(got, want) {
		t.Fatalf("%s: Done(%+v, %+v) is %+v and %d, not %+v and %d", what, s, e, got, told, want, code)
	}
	staysScene(t, "Done, "+what, given, s)
	for _, write := range spoilersOf(given) {
		write()
	}
	if !sameScene(got, want) {
		t.Fatalf("%s: the answer %+v hangs on the argument: it became %+v", what, want, got)
	}
	given = roomyScene(s)
	got, _ = impl.Done(given, e)
	for _, write := range spoilersOf(got) {
		write()
	}
	staysScene(t, "Done, written to, "+what, given, s)
}

// follows holds CodeIn and Done against the plain scene, and what is done against SceneOk.
func follows(t *testing.T, what string, s impl.Scene, e impl.Event) {
	t.Helper()
	p := plainOf(s)
	code := p.codeOf(e)
	if code == codeOk {
		p.do(e)
	}
	if want := p.told(); !impl.SceneOk(want) {
		t.Fatalf("%s: %+v is not SceneOk", what, want)
	}
	holds(t, what, s, e, p.told(), code)
}

// refused fails where an event is not refused by this code, or where the scene is not as it was.
func refused(t *testing.T, what string, s impl.Scene, e impl.Event, code int64) {
	t.Helper()
	holds(t, what, s, e, s, code)
}

// after makes a scene of events, all of which must be done.
func after(t *testing.T, s impl.Scene, list ...impl.Event) impl.Scene {
	t.Helper()
	for _, e := range list {
		next, code := impl.Done(s, e)
		if code != codeOk || !impl.SceneOk(next) {
			t.Fatalf("Done(%+v, %+v) is %+v and %d", s, e, next, code)
		}
		s = next
	}
	return s
}

// busyScene has something of everything, with room on every side of each object and each goroutine.
func busyScene() impl.Scene {
	return impl.Scene{
		Gors: 6,
		Locks: []impl.Lock{
			{Obj: 1, Writer: 3},
			{Obj: 4, Writer: -1, Readers: []int64{2}},
			{Obj: 7, Writer: -1, Readers: []int64{1, 3, 5}},
			{Obj: 9, Writer: -1, Readers: []int64{0, 1, 2, 3, 4, 5}},
			{Obj: 12, Writer: 0},
		},
		Chans: []impl.Chan{
			{Obj: 1},
			{Obj: 2, Closed: true},
			{Obj: 4, Cap: 3},
			{Obj: 5, Cap: 3, Sent: 2},
			{Obj: 6, Cap: 3, Sent: 7, Got: 4},
			{Obj: 8, Cap: 3, Sent: 7, Got: 7, Closed: true},
			{Obj: 9, Cap: 3, Sent: 7, Got: 6, Closed: true},
			{Obj: 10, Cap: 3, Sent: 7, Got: 4, Closed: true},
			{Obj: 12, Cap: 8, Sent: most, Got: most - 7},
			{Obj: 13, Cap: 8, Sent: most - 1, Got: most - 2},
			{Obj: 14, Cap: 8, Sent: most, Got: most - 8},
			{Obj: 15, Cap: 8, Sent: most, Got: most, Closed: true},
		},
		Groups: []impl.Count{{Obj: 2, N: 1}, {Obj: 3, N: 2}, {Obj: 6, N: most - 9}, {Obj: 7, N: most - 1}, {Obj: 11, N: most}},
		Onces:  []int64{1, 4, 6, 11},
	}
}

// fullScene has every object there may be, and every goroutine.
func fullScene() impl.Scene {
	s := impl.Scene{Gors: 16}
	for i := range int64(16) {
		if i%2 == 0 {
			s.Locks = append(s.Locks, impl.Lock{Obj: i, Writer: i})
		} else {
			s.Locks = append(s.Locks, impl.Lock{Obj: i, Writer: -1, Readers: append(slices.Clone(s.Onces), i)})
		}
		s.Chans = append(s.Chans, impl.Chan{Obj: i, Cap: i % 9, Sent: 20 + i%9, Got: 20, Closed: i%3 == 0})
		s.Groups = append(s.Groups, impl.Count{Obj: i, N: i + 1})
		s.Onces = append(s.Onces, i)
	}
	return s
}

func rightScenes() []impl.Scene {
	lone := impl.Scene{Gors: 1, Locks: []impl.Lock{{Obj: 15, Writer: 0}}, Chans: []impl.Chan{{Obj: 15, Cap: 8, Sent: most, Got: most}}, Groups: []impl.Count{{Obj: 15, N: most}}, Onces: []int64{15}}
	return []impl.Scene{{Gors: 1}, {Gors: 2}, {Gors: 15}, {Gors: 16}, lone, busyScene(), fullScene()}
}

// eventsBeside are right events of every Kind, of every goroutine and object, with the ends of every Size.
func eventsBeside() []impl.Event {
	all := []impl.Event{{Kind: impl.EvLoad}}
	for _, c := range kindCases() {
		for gor := range int64(16) {
			if c.sum&1 == 0 {
				all = append(all, eventOf(c.kind, gor, c.middles()))
				continue
			}
			for obj := range int64(16) {
				for _, f := range [][fieldCount]int64{c.leasts(), c.middles(), c.mosts()} {
					f[atObj] = obj
					if e := eventOf(c.kind, gor, f); e != all[len(all)-1] {
						all = append(all, e)
					}
				}
			}
		}
	}
	for gor := range int64(16) {
		for with := range int64(16) {
			all = append(all, impl.Event{Kind: impl.EvMeet, Gor: gor, Obj: 1, With: with})
		}
	}
	return all
}

func TestLimitsAndCodesOfScenes(t *testing.T) {
	if impl.MaxCount != most {
		t.Error(impl.MaxCount)
	}
	for i, code := range []int64{impl.EcOk, impl.EcEvent, impl.EcGor, impl.EcHeld, impl.EcNot, impl.EcChan, impl.EcClosed, impl.EcFull, impl.EcEmpty, impl.EcCount, impl.EcOnce} {
		if code != int64(i) {
			t.Errorf("the code %d stands in the document as %d", code, i)
		}
	}
}

func TestNewScene(t *testing.T) {
	s := impl.NewScene()
	if !sameScene(s, impl.Scene{Gors: 1}) || !impl.SceneOk(s) {
		t.Fatalf("%+v", s)
	}
	for _, write := range spoilersOf(s) {
		write()
	}
	if again := impl.NewScene(); !sameScene(again, impl.Scene{Gors: 1}) {
		t.Errorf("a second one is %+v", again)
	}
	for _, e := range eventsBeside() {
		follows(t, "new", impl.NewScene(), e)
	}
}

// A story of every Kind, each step told by what alone is other than ahead of it.
func TestDoneStepByStep(t *testing.T) {
	want := impl.NewScene()
	s := want
	for _, step := range []struct {
		e      impl.Event
		change func()
	}{
		{impl.Event{Kind: impl.EvGo, Obj: 1}, func() { want.Gors = 2 }},
		{impl.Event{Kind: impl.EvGo, Gor: 1, Obj: 2}, func() { want.Gors = 3 }},
		{impl.Event{Kind: impl.EvLock, Gor: 2, Obj: 5}, func() { want.Locks = []impl.Lock{{Obj: 5, Writer: 2}} }},
		{impl.Event{Kind: impl.EvRLock, Gor: 2, Obj: 3}, func() {
			want.Locks = []impl.Lock{{Obj: 3, Writer: -1, Readers: []int64{2}}, {Obj: 5, Writer: 2}}
		}},
		{impl.Event{Kind: impl.EvRLock, Gor: 0, Obj: 3}, func() { want.Locks[0].Readers = []int64{0, 2} }},
		{impl.Event{Kind: impl.EvRLock, Gor: 1, Obj: 3}, func() { want.Locks[0].Readers = []int64{0, 1, 2} }},
		{impl.Event{Kind: impl.EvUnlock, Gor: 2, Obj: 5}, func() { want.Locks = want.Locks[:1] }},
		{impl.Event{Kind: impl.EvRUnlock, Gor: 1, Obj: 3}, func() { want.Locks[0].Readers = []int64{0, 2} }},
		{impl.Event{Kind: impl.EvMake, Obj: 9, Size: 2}, func() { want.Chans = []impl.Chan{{Obj: 9, Cap: 2}} }},
		{impl.Event{Kind: impl.EvMake, Gor: 1, Obj: 4}, func() { want.Chans = []impl.Chan{{Obj: 4}, {Obj: 9, Cap: 2}} }},
		{impl.Event{Kind: impl.EvMake, Obj: 15, Size: 8}, func() { want.Chans = []impl.Chan{{Obj: 4}, {Obj: 9, Cap: 2}, {Obj: 15, Cap: 8}} }},
		{impl.Event{Kind: impl.EvSend, Gor: 1, Obj: 9}, func() { want.Chans[1].Sent = 1 }},
		{impl.Event{Kind: impl.EvSend, Gor: 1, Obj: 9}, func() { want.Chans[1].Sent = 2 }},
		{impl.Event{Kind: impl.EvRecv, Gor: 2, Obj: 9}, func() { want.Chans[1].Got = 1 }},
		{impl.Event{Kind: impl.EvMeet, Gor: 1, Obj: 4, With: 2}, func() {}},
		{impl.Event{Kind: impl.EvClose, Gor: 1, Obj: 9}, func() { want.Chans[1].Closed = true }},
		{impl.Event{Kind: impl.EvRecv, Gor: 2, Obj: 9}, func() { want.Chans[1].Got = 2 }},
		{impl.Event{Kind: impl.EvSawClose, Gor: 2, Obj: 9}, func() {}},
		{impl.Event{Kind: impl.EvClose, Gor: 1, Obj: 4}, func() { want.Chans[0].Closed = true }},
		{impl.Event{Kind: impl.EvSawClose, Gor: 0, Obj: 4}, func() {}},
		{impl.Event{Kind: impl.EvAdd, Obj: 6, Size: 2}, func() { want.Groups = []impl.Count{{Obj: 6, N: 2}} }},
		{impl.Event{Kind: impl.EvAdd, Obj: 0, Size: 9}, func() { want.Groups = []impl.Count{{Obj: 0, N: 9}, {Obj: 6, N: 2}} }},
		{impl.Event{Kind: impl.EvAdd, Obj: 6, Size: 1}, func() { want.Groups[1].N = 3 }},
		{impl.Event{Kind: impl.EvDone, Gor: 1, Obj: 6}, func() { want.Groups[1].N = 2 }},
		{impl.Event{Kind: impl.EvWait, Gor: 1, Obj: 7}, func() {}},
		{impl.Event{Kind: impl.EvOnce, Gor: 1, Obj: 8}, func() { want.Onces = []int64{8} }},
		{impl.Event{Kind: impl.EvOnce, Gor: 2, Obj: 2}, func() { want.Onces = []int64{2, 8} }},
		{impl.Event{Kind: impl.EvSawOnce, Gor: 0, Obj: 8}, func() {}},
		{impl.Event{Kind: impl.EvLoad, Gor: 1, Obj: 8}, func() {}},
		{impl.Event{Kind: impl.EvStore, Gor: 1, Obj: 3}, func() {}},
		{impl.Event{Kind: impl.EvSwap, Gor: 1, Obj: 9}, func() {}},
		{impl.Event{Kind: impl.EvRead, Gor: 1, Lo: 3, Size: 4, Fn: 5, Site: 6}, func() {}},
		{impl.Event{Kind: impl.EvWrite, Gor: 1, Lo: 3, Size: 4, Fn: 5, Site: 6}, func() {}},
		{impl.Event{Kind: impl.EvFresh, Gor: 1, Lo: 3, Size: 4}, func() {}},
		{impl.Event{Kind: impl.EvDone, Gor: 2, Obj: 6}, func() { want.Groups[1].N = 1 }},
		{impl.Event{Kind: impl.EvDone, Gor: 2, Obj: 6}, func() { want.Groups = want.Groups[:1] }},
		{impl.Event{Kind: impl.EvWait, Gor: 0, Obj: 6}, func() {}},
		{impl.Event{Kind: impl.EvRUnlock, Gor: 0, Obj: 3}, func() { want.Locks[0].Readers = []int64{2} }},
		{impl.Event{Kind: impl.EvRUnlock, Gor: 2, Obj: 3}, func() { want.Locks = nil }},
		{impl.Event{Kind: impl.EvLock, Gor: 0, Obj: 3}, func() { want.Locks = []impl.Lock{{Obj: 3, Writer: 0}} }},
	} {
		was := roomyScene(s)
		step.change()
		holds(t, "a story", was, step.e, want, codeOk)
		s = after(t, was, step.e)
	}
}

// A codeCase has an event that just has the code, and one that just has it not: it is done.
type codeCase struct {
	what     string
	code     int64
	has, not impl.Event
}

// codeCases are held against busyScene.
func codeCases() []codeCase {
	ev := func(kind int64, gor int64, obj int64) impl.Event { return impl.Event{Kind: kind, Gor: gor, Obj: obj} }
	meet := func(gor int64, obj int64, with int64) impl.Event {
		return impl.Event{Kind: impl.EvMeet, Gor: gor, Obj: obj, With: with}
	}
	add := func(obj int64, size int64) impl.Event { return impl.Event{Kind: impl.EvAdd, Obj: obj, Size: size} }
	return []codeCase{
		{"no Kind", codeEvent, ev(0, 0, 0), ev(impl.EvLoad, 0, 0)},
		{"a Kind too many", codeEvent, ev(23, 0, 0), ev(impl.EvSwap, 0, 0)},
		{"a Gor below 0", codeEvent, ev(impl.EvLoad, -1, 0), ev(impl.EvLoad, 0, 0)},
		{"an Obj too many", codeEvent, ev(impl.EvLoad, 0, 16), ev(impl.EvLoad, 0, 15)},
		{"a field that the Kind has not", codeEvent, impl.Event{Kind: impl.EvLoad, Size: 1}, ev(impl.EvLoad, 0, 0)},
		{"Gor at Gors", codeGor, ev(impl.EvLoad, 6, 0), ev(impl.EvLoad, 5, 0)},
		{"Gor far behind Gors", codeGor, ev(impl.EvLoad, 15, 0), ev(impl.EvLoad, 5, 0)},
		{"EvGo one below Gors", codeGor, ev(impl.EvGo, 0, 5), ev(impl.EvGo, 0, 6)},
		{"EvGo one above Gors", codeGor, ev(impl.EvGo, 0, 7), ev(impl.EvGo, 5, 6)},
		{"EvGo by whom it starts", codeGor, ev(impl.EvGo, 6, 6), ev(impl.EvGo, 5, 6)},
		{"With at Gors", codeGor, meet(0, 1, 6), meet(0, 1, 5)},
		{"With is Gor", codeGor, meet(3, 1, 3), meet(3, 1, 2)},
		{"With is Gor, 0", codeGor, meet(0, 1, 0), meet(0, 1, 1)},
		{"EvMeet by Gor at Gors", codeGor, meet(6, 1, 5), meet(5, 1, 0)},
		{"EvLock of what a writer has", codeHeld, ev(impl.EvLock, 2, 1), ev(impl.EvLock, 2, 0)},
		{"EvLock of what Gor itself writes", codeHeld, ev(impl.EvLock, 3, 1), ev(impl.EvLock, 3, 2)},
		{"EvLock of what a reader has", codeHeld, ev(impl.EvLock, 0, 4), ev(impl.EvLock, 0, 3)},
		{"EvLock of what Gor itself reads", codeHeld, ev(impl.EvLock, 2, 4), ev(impl.EvLock, 2, 5)},
		{"EvRLock of what a writer has", codeHeld, ev(impl.EvRLock, 2, 1), ev(impl.EvRLock, 2, 0)},
		{"EvRLock of what Gor itself writes", codeHeld, ev(impl.EvRLock, 0, 12), ev(impl.EvRLock, 0, 13)},
		{"EvRLock of what Gor reads alone", codeHeld, ev(impl.EvRLock, 2, 4), ev(impl.EvRLock, 3, 4)},
		{"EvRLock of what Gor reads first", codeHeld, ev(impl.EvRLock, 1, 7), ev(impl.EvRLock, 0, 7)},
		{"EvRLock of what Gor reads last", codeHeld, ev(impl.EvRLock, 5, 7), ev(impl.EvRLock, 4, 7)},
		{"EvUnlock of what another one writes", codeNot, ev(impl.EvUnlock, 2, 1), ev(impl.EvUnlock, 3, 1)},
		{"EvUnlock of what nobody has", codeNot, ev(impl.EvUnlock, 0, 11), ev(impl.EvUnlock, 0, 12)},
		{"EvUnlock of what Gor reads", codeNot, ev(impl.EvUnlock, 2, 4), ev(impl.EvRUnlock, 2, 4)},
		{"EvUnlock of what others read", codeNot, ev(impl.EvUnlock, 0, 7), ev(impl.EvUnlock, 0, 12)},
		{"EvRUnlock of what others read", codeNot, ev(impl.EvRUnlock, 2, 7), ev(impl.EvRUnlock, 3, 7)},
		{"EvRUnlock of what nobody has", codeNot, ev(impl.EvRUnlock, 0, 8), ev(impl.EvRUnlock, 0, 9)},
		{"EvRUnlock of what Gor writes", codeNot, ev(impl.EvRUnlock, 3, 1), ev(impl.EvUnlock, 3, 1)},
		{"EvRUnlock of what another one writes", codeNot, ev(impl.EvRUnlock, 2, 1), ev(impl.EvRUnlock, 5, 9)},
		{"EvMake of one that is there", codeChan, ev(impl.EvMake, 0, 1), ev(impl.EvMake, 0, 0)},
		{"EvMake of one that is closed", codeChan, ev(impl.EvMake, 0, 2), ev(impl.EvMake, 0, 3)},
		{"EvSend to none", codeChan, ev(impl.EvSend, 0, 3), ev(impl.EvSend, 0, 4)},
		{"EvSend to one of Cap 0", codeChan, ev(impl.EvSend, 0, 1), ev(impl.EvSend, 0, 4)},
		{"EvRecv of none", codeChan, ev(impl.EvRecv, 0, 3), ev(impl.EvRecv, 0, 5)},
		{"EvRecv of one of Cap 0", codeChan, ev(impl.EvRecv, 0, 1), ev(impl.EvRecv, 0, 5)},
		{"EvMeet over none", codeChan, meet(0, 0, 1), meet(0, 1, 1)},
		{"EvMeet over one of Cap 3", codeChan, meet(0, 4, 1), meet(0, 1, 1)},
		{"EvClose of none", codeChan, ev(impl.EvClose, 0, 0), ev(impl.EvClose, 0, 1)},
		{"EvSawClose of none", codeChan, ev(impl.EvSawClose, 0, 3), ev(impl.EvSawClose, 0, 2)},
		{"EvSend to one that is closed", codeClosed, ev(impl.EvSend, 0, 8), ev(impl.EvSend, 0, 4)},
		{"EvMeet over one that is closed", codeClosed, meet(0, 2, 1), meet(0, 1, 1)},
		{"EvClose of one that is closed", codeClosed, ev(impl.EvClose, 0, 2), ev(impl.EvClose, 0, 6)},
		{"EvSawClose of one that is not", codeClosed, ev(impl.EvSawClose, 0, 4), ev(impl.EvSawClose, 0, 8)},
		{"EvSend at Cap", codeFull, ev(impl.EvSend, 0, 6), ev(impl.EvSend, 0, 5)},
		{"EvRecv at 0", codeEmpty, ev(impl.EvRecv, 0, 4), ev(impl.EvRecv, 0, 5)},
		{"EvRecv at 0, closed", codeEmpty, ev(impl.EvRecv, 0, 8), ev(impl.EvRecv, 0, 9)},
		{"EvSawClose at 1", codeEmpty, ev(impl.EvSawClose, 0, 9), ev(impl.EvSawClose, 0, 8)},
		{"EvSawClose at Cap", codeEmpty, ev(impl.EvSawClose, 0, 10), ev(impl.EvSawClose, 0, 15)},
		{"EvDone of none", codeCount, ev(impl.EvDone, 0, 1), ev(impl.EvDone, 0, 2)},
		{"EvWait of 1", codeCount, ev(impl.EvWait, 0, 2), ev(impl.EvWait, 0, 1)},
		{"EvWait of MaxCount", codeCount, ev(impl.EvWait, 0, 11), ev(impl.EvWait, 0, 12)},
		{"EvAdd at MaxCount", codeCount, add(11, 1), add(7, 1)},
		{"EvAdd one past MaxCount", codeCount, add(7, 2), add(7, 1)},
		{"EvAdd of 9 past MaxCount", codeCount, add(7, 9), add(6, 9)},
		{"EvSend at MaxCount", codeCount, ev(impl.EvSend, 0, 12), ev(impl.EvSend, 0, 13)},
		{"EvOnce twice", codeOnce, ev(impl.EvOnce, 0, 4), ev(impl.EvOnce, 0, 5)},
		{"EvSawOnce ahead of it", codeOnce, ev(impl.EvSawOnce, 0, 5), ev(impl.EvSawOnce, 0, 4)},
	}
}

func TestCodesJustHadAndJustNot(t *testing.T) {
	s := busyScene()
	for _, c := range codeCases() {
		refused(t, c.what, s, c.has, c.code)
		follows(t, c.what, s, c.has)
		if got := impl.CodeIn(s, c.not); got != codeOk {
			t.Errorf("%s, just not: %+v has the code %d", c.what, c.not, got)
		}
		follows(t, c.what+", just not", s, c.not)
	}
}

// Cap 1 is the first one that holds some: what may be done at Cap 0 may not be there, and the other way round.
func TestCodesAtTheLeastCaps(t *testing.T) {
	for _, c := range []struct {
		size             int64
		send, recv, meet int64
	}{{0, codeChan, codeChan, codeOk}, {1, codeOk, codeEmpty, codeChan}, {2, codeOk, codeEmpty, codeChan}, {8, codeOk, codeEmpty, codeChan}} {
		s := after(t, impl.Scene{Gors: 2}, impl.Event{Kind: impl.EvMake, Obj: 3, Size: c.size})
		for kind, code := range map[int64]int64{impl.EvSend: c.send, impl.EvRecv: c.recv, impl.EvMeet: c.meet} {
			e := impl.Event{Kind: kind, Gor: 1, Obj: 3}
			if got := impl.CodeIn(s, e); got != code {
				t.Errorf("Cap %d: %+v has the code %d, not %d", c.size, e, got, code)
			}
			follows(t, "a new channel", s, e)
		}
	}
}

// A channel is filled to each Cap and emptied again, twice, so that Got is not 0 the second time.
func TestFullAndEmptyAtEachCap(t *testing.T) {
	send, recv := impl.Event{Kind: impl.EvSend, Obj: 3}, impl.Event{Kind: impl.EvRecv, Obj: 3}
	for size := int64(1); size <= 8; size++ {
		s := after(t, impl.NewScene(), impl.Event{Kind: impl.EvMake, Obj: 3, Size: size})
		for range 2 {
			for range size {
				s = after(t, s, send)
			}
			refused(t, "full", s, send, codeFull)
			for range size {
				s = after(t, s, recv)
			}
			refused(t, "empty", s, recv, codeEmpty)
		}
		if want := (impl.Chan{Obj: 3, Cap: size, Sent: 2 * size, Got: 2 * size}); s.Chans[0] != want {
			t.Errorf("%+v, not %+v", s.Chans[0], want)
		}
	}
}

// Goroutines are started up to MaxGors; behind the last one there is no number for one more.
func TestGorsUpToTheLast(t *testing.T) {
	s := impl.NewScene()
	for g := int64(1); g < 16; g++ {
		refused(t, "not there yet", s, impl.Event{Kind: impl.EvLoad, Gor: g}, codeGor)
		refused(t, "started by itself", s, impl.Event{Kind: impl.EvGo, Gor: g, Obj: g}, codeGor)
		refused(t, "there already", s, impl.Event{Kind: impl.EvGo, Obj: g - 1}, codeGor)
		s = after(t, s, impl.Event{Kind: impl.EvGo, Gor: g - 1, Obj: g}, impl.Event{Kind: impl.EvLoad, Gor: g})
		if s.Gors != g+1 {
			t.Fatal(s)
		}
	}
	for obj := range int64(16) {
		refused(t, "all there", s, impl.Event{Kind: impl.EvGo, Obj: obj}, codeGor)
	}
	refused(t, "one too many", s, impl.Event{Kind: impl.EvGo, Obj: 16}, codeEvent)
}

func TestCountsUpToMaxCount(t *testing.T) {
	for size := int64(1); size <= 9; size++ {
		add := impl.Event{Kind: impl.EvAdd, Obj: 5, Size: size}
		for n := most - int64(11); n <= most; n++ {
			s := impl.Scene{Gors: 1, Groups: []impl.Count{{Obj: 5, N: n}}}
			if n+size > most {
				refused(t, "too many", s, add, codeCount)
			} else {
				holds(t, "more", s, add, impl.Scene{Gors: 1, Groups: []impl.Count{{Obj: 5, N: n + size}}}, codeOk)
			}
		}
	}
	for got := most - int64(8); got <= most; got++ {
		last := impl.Scene{Gors: 1, Chans: []impl.Chan{{Obj: 5, Cap: 8, Sent: most, Got: got}}}
		code := int64(codeCount)
		if got == most-8 {
			code = codeFull
		}
		refused(t, "sent too often", last, impl.Event{Kind: impl.EvSend, Obj: 5}, code)
		if got < most {
			below := impl.Scene{Gors: 1, Chans: []impl.Chan{{Obj: 5, Cap: 8, Sent: most - 1, Got: got}}}
			holds(t, "sent once more", below, impl.Event{Kind: impl.EvSend, Obj: 5}, last, codeOk)
		}
	}
}

func TestTheFirstOfSeveralCodes(t *testing.T) {
	s := busyScene()
	ev := func(kind int64, gor int64, obj int64) impl.Event { return impl.Event{Kind: kind, Gor: gor, Obj: obj} }
	for _, c := range []struct {
		what  string
		e     impl.Event
		codes []int64
	}{
		{"no goroutine, a lock that is held", ev(impl.EvLock, 6, 1), []int64{codeGor, codeHeld}},
		{"no goroutine, a lock that is read", ev(impl.EvRLock, 6, 1), []int64{codeGor, codeHeld}},
		{"no goroutine, a lock it has not", ev(impl.EvUnlock, 6, 1), []int64{codeGor, codeNot}},
		{"no goroutine, a lock it does not read", ev(impl.EvRUnlock, 6, 7), []int64{codeGor, codeNot}},
		{"no goroutine, a channel there is", ev(impl.EvMake, 6, 1), []int64{codeGor, codeChan}},
		{"no goroutine, no channel", ev(impl.EvClose, 6, 0), []int64{codeGor, codeChan}},
		{"no goroutine, closed", ev(impl.EvClose, 6, 8), []int64{codeGor, codeClosed}},
		{"no goroutine, full", ev(impl.EvSend, 6, 6), []int64{codeGor, codeFull}},
		{"no goroutine, empty", ev(impl.EvRecv, 6, 4), []int64{codeGor, codeEmpty}},
		{"no goroutine, no count", ev(impl.EvDone, 6, 1), []int64{codeGor, codeCount}},
		{"no goroutine, a count", ev(impl.EvWait, 6, 2), []int64{codeGor, codeCount}},
		{"no goroutine, once", ev(impl.EvOnce, 6, 1), []int64{codeGor, codeOnce}},
		{"no goroutine, not once", ev(impl.EvSawOnce, 6, 0), []int64{codeGor, codeOnce}},
		{"itself, over no channel", impl.Event{Kind: impl.EvMeet, Gor: 2, Obj: 0, With: 2}, []int64{codeGor, codeChan}},
		{"none to meet, over one that is closed", impl.Event{Kind: impl.EvMeet, Gor: 2, Obj: 2, With: 6}, []int64{codeGor, codeClosed}},
		{"itself, over one that holds some and is closed", impl.Event{Kind: impl.EvMeet, Gor: 2, Obj: 8, With: 2}, []int64{codeGor, codeChan, codeClosed}},
		{"met over one that holds some and is closed", impl.Event{Kind: impl.EvMeet, Gor: 2, Obj: 8, With: 1}, []int64{codeChan, codeClosed}},
		{"sent to one of Cap 0, full at once", ev(impl.EvSend, 0, 1), []int64{codeChan, codeFull}},
		{"sent to one of Cap 0 that is closed", ev(impl.EvSend, 0, 2), []int64{codeChan, codeClosed, codeFull}},
		{"taken from one of Cap 0, empty at once", ev(impl.EvRecv, 0, 1), []int64{codeChan, codeEmpty}},
		{"taken from none", ev(impl.EvRecv, 0, 0), []int64{codeChan, codeEmpty}},
		{"no channel is not closed either", ev(impl.EvSawClose, 0, 0), []int64{codeChan, codeClosed}},
		{"closed and full", ev(impl.EvSend, 0, 10), []int64{codeClosed, codeFull}},
		{"closed, at MaxCount", ev(impl.EvSend, 0, 15), []int64{codeClosed, codeCount}},
		{"full, at MaxCount", ev(impl.EvSend, 0, 14), []int64{codeFull, codeCount}},
		{"neither closed nor empty", ev(impl.EvSawClose, 0, 5), []int64{codeClosed, codeEmpty}},
	} {
		codes := plainOf(s).codesOf(c.e)
		for _, code := range c.codes {
			if !codes[code] {
				t.Errorf("%s: %+v has not the code %d", c.what, c.e, code)
			}
		}
		refused(t, c.what, s, c.e, c.codes[0])
	}
	wrong := busyScene()
	wrong.Gors = 0
	holds(t, "a wrong scene and no goroutine", wrong, ev(impl.EvLock, 6, 1), impl.Scene{}, codeEvent)
	refused(t, "a wrong event of no goroutine", s, ev(impl.EvLock, 16, 1), codeEvent)
	refused(t, "a wrong event of a lock that is held", s, impl.Event{Kind: impl.EvLock, Obj: 1, With: 1}, codeEvent)
}

// Closed and full and at MaxCount, all three at once.
func TestTheFirstOfThreeCodesOfSending(t *testing.T) {
	c := impl.Chan{Obj: 0, Cap: 8, Sent: most, Got: most - 8, Closed: true}
	send := impl.Event{Kind: impl.EvSend}
	refused(t, "all three", impl.Scene{Gors: 1, Chans: []impl.Chan{c}}, send, codeClosed)
	c.Closed = false
	refused(t, "two", impl.Scene{Gors: 1, Chans: []impl.Chan{c}}, send, codeFull)
	c.Got++
	refused(t, "one", impl.Scene{Gors: 1, Chans: []impl.Chan{c}}, send, codeCount)
	c.Got, c.Cap = most, 0
	refused(t, "Cap 0", impl.Scene{Gors: 1, Chans: []impl.Chan{c}}, send, codeChan)
}

// Every event in every scene, held against the plain scene.
func TestEveryEventInRightScenes(t *testing.T) {
	for i, s := range rightScenes() {
		for _, e := range eventsBeside() {
			follows(t, fmt.Sprint("scene ", i), s, e)
		}
		for _, e := range wrongEvents() {
			if code := impl.CodeIn(s, e); code != codeEvent {
				t.Errorf("scene %d: %+v has the code %d", i, e, code)
			}
			if got, code := impl.Done(s, e); code != codeEvent || !sameScene(got, s) {
				t.Errorf("scene %d: Done of %+v is %+v and %d", i, e, got, code)
			}
		}
	}
}

func TestWrongEventsLeaveTheScene(t *testing.T) {
	for i, s := range rightScenes() {
		for _, e := range []impl.Event{{}, {Kind: 23}, {Kind: -1}, {Kind: impl.EvLock, Gor: 16}, {Kind: impl.EvLock, Gor: -1}, {Kind: impl.EvGo, Obj: 16}, {Kind: impl.EvOnce, Obj: -1}, {Kind: impl.EvMake, Size: 9}, {Kind: impl.EvAdd}, {Kind: impl.EvDone, Size: 1}, {Kind: impl.EvMeet, With: 16}} {
			refused(t, fmt.Sprint("scene ", i), s, e, codeEvent)
		}
	}
}

// What nobody has any more is not there at all, whatever stands beside it.
func TestNothingIsLeft(t *testing.T) {
	none := impl.Scene{Gors: 3}
	ev := func(kind int64, gor int64) impl.Event { return impl.Event{Kind: kind, Gor: gor, Obj: 7} }
	add := impl.Event{Kind: impl.EvAdd, Obj: 7, Size: 2}
	beside := impl.Scene{Gors: 6, Locks: []impl.Lock{{Obj: 6, Writer: 1}, {Obj: 8, Writer: -1, Readers: []int64{0}}}, Groups: []impl.Count{{Obj: 6, N: 1}, {Obj: 8, N: 2}}}
	for _, s := range []impl.Scene{none, beside} {
		for _, list := range [][]impl.Event{
			{ev(impl.EvLock, 1), ev(impl.EvUnlock, 1)},
			{ev(impl.EvRLock, 1), ev(impl.EvRUnlock, 1)},
			{ev(impl.EvRLock, 1), ev(impl.EvRLock, 2), ev(impl.EvRUnlock, 1), ev(impl.EvRUnlock, 2)},
			{ev(impl.EvRLock, 2), ev(impl.EvRLock, 1), ev(impl.EvRUnlock, 1), ev(impl.EvRUnlock, 2)},
			{ev(impl.EvRLock, 0), ev(impl.EvRLock, 1), ev(impl.EvRLock, 2), ev(impl.EvRUnlock, 1), ev(impl.EvRUnlock, 0), ev(impl.EvRUnlock, 2)},
			{add, ev(impl.EvDone, 0), ev(impl.EvDone, 1)},
			{add, ev(impl.EvDone, 0), add, ev(impl.EvDone, 1), ev(impl.EvDone, 1), ev(impl.EvDone, 2)},
		} {
			last := len(list) - 1
			ahead := after(t, s, list[:last]...)
			if sameScene(ahead, s) {
				t.Errorf("%+v: nothing was there ahead of the end", list)
			}
			holds(t, "the last one gone", ahead, list[last], s, codeOk)
		}
		for _, e := range []impl.Event{ev(impl.EvUnlock, 1), ev(impl.EvRUnlock, 1)} {
			refused(t, "had by nobody", s, e, codeNot)
		}
		refused(t, "none to wait for", s, ev(impl.EvDone, 1), codeCount)
		holds(t, "none to wait for", s, ev(impl.EvWait, 1), s, codeOk)
	}
	all := after(t, impl.Scene{Gors: 1}, impl.Event{Kind: impl.EvMake, Size: 1}, impl.Event{Kind: impl.EvSend}, impl.Event{Kind: impl.EvRecv}, impl.Event{Kind: impl.EvClose})
	if want := (impl.Chan{Cap: 1, Sent: 1, Got: 1, Closed: true}); len(all.Chans) != 1 || all.Chans[0] != want {
		t.Errorf("a channel that is empty and closed is still there: %+v", all.Chans)
	}
}

// A sceneCase is a scene and whether it is right.
type sceneCase struct {
	what  string
	scene impl.Scene
	ok    bool
}

func locksCases() []sceneCase {
	with := func(what string, ok bool, list ...impl.Lock) sceneCase {
		return sceneCase{what, impl.Scene{Gors: 3, Locks: list}, ok}
	}
	read := func(obj int64, readers ...int64) impl.Lock { return impl.Lock{Obj: obj, Writer: -1, Readers: readers} }
	return []sceneCase{
		with("a writer", true, impl.Lock{Obj: 4, Writer: 1}),
		with("the first writer", true, impl.Lock{Writer: 0}),
		with("the last writer", true, impl.Lock{Obj: 15, Writer: 2}),
		with("a writer and no Readers that are not nil", true, impl.Lock{Writer: 1, Readers: []int64{}}),
		with("a writer that is not there", false, impl.Lock{Writer: 3}),
		with("a writer far off", false, impl.Lock{Writer: math.MaxInt64}),
		with("nobody", false, impl.Lock{Writer: -1}),
		with("nobody, Readers that are not nil", false, impl.Lock{Writer: -1, Readers: []int64{}}),
		with("a writer below -1", false, impl.Lock{Writer: -2}),
		with("the least writer", false, impl.Lock{Writer: math.MinInt64}),
		with("readers and a writer below -1", false, impl.Lock{Writer: -2, Readers: []int64{0}}),
		with("a writer and a reader", false, impl.Lock{Writer: 1, Readers: []int64{0}}),
		with("a writer who reads", false, impl.Lock{Writer: 1, Readers: []int64{1}}),
		with("writer 0 and readers", false, impl.Lock{Writer: 0, Readers: []int64{1, 2}}),
		with("a writer that is not there and a reader", false, impl.Lock{Writer: 3, Readers: []int64{1}}),
		with("the first reader", true, read(0, 0)),
		with("the last reader", true, read(0, 2)),
		with("all readers", true, read(0, 0, 1, 2)),
		with("some readers", true, read(0, 0, 2)),
		with("a reader that is not there", false, read(0, 3)),
		with("a last reader that is not there", false, read(0, 0, 3)),
		with("a reader below 0", false, read(0, -1)),
		with("a first reader below 0", false, read(0, -1, 0)),
		with("the least reader", false, read(0, math.MinInt64, 0)),
		with("the greatest reader", false, read(0, 0, math.MaxInt64)),
		with("readers that fall", false, read(0, 1, 0)),
		with("readers that fall at last", false, read(0, 0, 2, 1)),
		with("a reader twice", false, read(0, 1, 1)),
		with("the last reader twice", false, read(0, 0, 2, 2)),
		with("two locks", true, read(0, 0), read(1, 0)),
		with("the first and the last lock", true, read(0, 0), read(15, 0)),
		with("a writer's and a readers'", true, impl.Lock{Obj: 2, Writer: 1}, read(3, 1)),
		with("locks that fall", false, read(1, 0), read(0, 0)),
		with("locks that fall at last", false, read(0, 0), read(5, 0), read(4, 0)),
		with("a lock twice", false, read(1, 0), read(1, 0)),
		with("a lock read and written", false, impl.Lock{Obj: 1, Writer: 1}, read(1, 0)),
		with("a lock below 0", false, read(-1, 0)),
		with("a first lock below 0", false, read(-1, 0), read(0, 0)),
		with("a lock too many", false, read(16, 0)),
		with("a last lock too many", false, read(15, 0), read(16, 0)),
		with("the least lock", false, read(math.MinInt64, 0)),
		with("the greatest lock", false, read(math.MaxInt64, 0)),
		with("a second lock that nobody has", false, read(0, 0), impl.Lock{Obj: 1, Writer: -1}),
		with("a first lock that nobody has", false, impl.Lock{Obj: 0, Writer: -1}, read(1, 0)),
	}
}

func chansCases() []sceneCase {
	with := func(what string, ok bool, list ...impl.Chan) sceneCase {
		return sceneCase{what, impl.Scene{Gors: 1, Chans: list}, ok}
	}
	return []sceneCase{
		with("a new one", true, impl.Chan{}),
		with("a closed one", true, impl.Chan{Closed: true}),
		with("the greatest Cap", true, impl.Chan{Cap: 8}),
		with("a Cap too many", false, impl.Chan{Cap: 9}),
		with("a Cap below 0", false, impl.Chan{Cap: -1}),
		with("a Cap below 0, and Got more than Sent", false, impl.Chan{Cap: -1, Sent: 1, Got: 2}),
		with("the greatest number as Cap", false, impl.Chan{Cap: math.MaxInt64, Sent: 1, Got: 1}),
		with("the least number as Cap", false, impl.Chan{Cap: math.MinInt64}),
		with("Cap 0, Sent is Got", true, impl.Chan{Sent: 5, Got: 5}),
		with("Cap 0, Sent is one more", false, impl.Chan{Sent: 1}),
		with("Sent is Got and Cap", true, impl.Chan{Cap: 3, Sent: 7, Got: 4}),
		with("Sent is one more than Got and Cap", false, impl.Chan{Cap: 3, Sent: 8, Got: 4}),
		with("Sent is Cap", true, impl.Chan{Cap: 8, Sent: 8}),
		with("Sent is one more than Cap", false, impl.Chan{Cap: 8, Sent: 9}),
		with("Got is Sent", true, impl.Chan{Cap: 3, Sent: 7, Got: 7}),
		with("Got is one more than Sent", false, impl.Chan{Cap: 3, Sent: 7, Got: 8}),
		with("Got is 1, Sent is 0", false, impl.Chan{Cap: 3, Got: 1}),
		with("Got below 0", false, impl.Chan{Cap: 3, Sent: 1, Got: -1}),
		with("Got below 0, Sent 0", false, impl.Chan{Cap: 3, Got: -1}),
		with("Sent and Got below 0", false, impl.Chan{Cap: 3, Sent: -1, Got: -1}),
		with("Sent below 0", false, impl.Chan{Cap: 3, Sent: -1, Got: 0}),
		with("Sent below 0, Got further below", false, impl.Chan{Cap: 3, Sent: -1, Got: -2}),
		with("the least number as Got", false, impl.Chan{Cap: 3, Sent: 1, Got: math.MinInt64}),
		with("the least number as Sent and Got", false, impl.Chan{Cap: 3, Sent: math.MinInt64, Got: math.MinInt64}),
		with("the least number as Sent", false, impl.Chan{Cap: 3, Sent: math.MinInt64}),
		with("the greatest number as Got", false, impl.Chan{Cap: 3, Sent: 1, Got: math.MaxInt64}),
		with("the greatest number as Sent and Got", false, impl.Chan{Cap: 3, Sent: math.MaxInt64, Got: math.MaxInt64}),
		with("the greatest number as Sent, the least as Got", false, impl.Chan{Cap: 3, Sent: math.MaxInt64, Got: math.MinInt64}),
		with("Sent MaxCount", true, impl.Chan{Cap: 3, Sent: most, Got: most - 3}),
		with("Sent and Got MaxCount", true, impl.Chan{Cap: 3, Sent: most, Got: most}),
		with("Sent one past MaxCount", false, impl.Chan{Cap: 3, Sent: most + 1, Got: most}),
		with("Sent and Got one past MaxCount", false, impl.Chan{Cap: 3, Sent: most + 1, Got: most + 1}),
		with("the first and the last one", true, impl.Chan{}, impl.Chan{Obj: 15}),
		with("one below 0", false, impl.Chan{Obj: -1}),
		with("a first one below 0", false, impl.Chan{Obj: -1}, impl.Chan{}),
		with("one too many", false, impl.Chan{Obj: 16}),
		with("a last one too many", false, impl.Chan{Obj: 15}, impl.Chan{Obj: 16}),
		with("the least one", false, impl.Chan{Obj: math.MinInt64}),
		with("the greatest one", false, impl.Chan{Obj: math.MaxInt64}),
		with("they fall", false, impl.Chan{Obj: 1}, impl.Chan{Obj: 0}),
		with("they fall at last", false, impl.Chan{}, impl.Chan{Obj: 7}, impl.Chan{Obj: 6}),
		with("two alike", false, impl.Chan{Obj: 3}, impl.Chan{Obj: 3}),
		with("two of one number", false, impl.Chan{Obj: 3, Cap: 1}, impl.Chan{Obj: 3, Cap: 2}),
		with("a wrong one behind a right one", false, impl.Chan{Obj: 3}, impl.Chan{Obj: 4, Cap: 9}),
		with("a wrong one ahead of a right one", false, impl.Chan{Obj: 3, Cap: 9}, impl.Chan{Obj: 4}),
	}
}

func groupsCases() []sceneCase {
	with := func(what string, ok bool, list ...impl.Count) sceneCase {
		return sceneCase{what, impl.Scene{Gors: 1, Groups: list}, ok}
	}
	return []sceneCase{
		with("N 1", true, impl.Count{N: 1}),
		with("N 0", false, impl.Count{N: 0}),
		with("N 0 behind a right one", false, impl.Count{N: 1}, impl.Count{Obj: 1}),
		with("N 0 ahead of a right one", false, impl.Count{}, impl.Count{Obj: 1, N: 1}),
		with("N below 0", false, impl.Count{N: -1}),
		with("N MaxCount", true, impl.Count{N: most}),
		with("N one past MaxCount", false, impl.Count{N: most + 1}),
		with("the least N", false, impl.Count{N: math.MinInt64}),
		with("the greatest N", false, impl.Count{N: math.MaxInt64}),
		with("the first and the last one", true, impl.Count{N: 1}, impl.Count{Obj: 15, N: 1}),
		with("one below 0", false, impl.Count{Obj: -1, N: 1}),
		with("one too many", false, impl.Count{Obj: 16, N: 1}),
		with("a last one too many", false, impl.Count{Obj: 15, N: 1}, impl.Count{Obj: 16, N: 1}),
		with("the least one", false, impl.Count{Obj: math.MinInt64, N: 1}),
		with("the greatest one", false, impl.Count{Obj: math.MaxInt64, N: 1}),
		with("they fall", false, impl.Count{Obj: 1, N: 1}, impl.Count{Obj: 0, N: 1}),
		with("two alike", false, impl.Count{Obj: 3, N: 1}, impl.Count{Obj: 3, N: 1}),
		with("two of one number", false, impl.Count{Obj: 3, N: 1}, impl.Count{Obj: 3, N: 2}),
	}
}

func oncesCases() []sceneCase {
	with := func(what string, ok bool, list ...int64) sceneCase {
		return sceneCase{what, impl.Scene{Gors: 1, Onces: list}, ok}
	}
	return []sceneCase{
		with("none, but not nil", true, []int64{}...),
		with("the first one", true, 0),
		with("the last one", true, 15),
		with("some", true, 0, 3, 15),
		with("all", true, fullScene().Onces...),
		with("one below 0", false, -1),
		with("a first one below 0", false, -1, 0),
		with("one too many", false, 16),
		with("a last one too many", false, 15, 16),
		with("all and one too many", false, append(fullScene().Onces, 16)...),
		with("the least one", false, math.MinInt64),
		with("the greatest one", false, math.MaxInt64),
		with("they fall", false, 1, 0),
		with("they fall at last", false, 0, 7, 6),
		with("two alike", false, 3, 3),
		with("the last two alike", false, 0, 15, 15),
		with("very many", false, manyOf(100000, 1)...),
	}
}

func gorsCases() []sceneCase {
	var all []sceneCase
	for _, gors := range oddNumbers() {
		all = append(all, sceneCase{"Gors alone", impl.Scene{Gors: gors}, gors >= 1 && gors <= 16})
	}
	for gors := int64(-1); gors <= 18; gors++ {
		right := gors >= 1 && gors <= 16
		last := impl.Scene{Gors: gors, Locks: []impl.Lock{{Writer: gors - 1}}}
		past := impl.Scene{Gors: gors, Locks: []impl.Lock{{Writer: gors}}}
		read := impl.Scene{Gors: gors, Locks: []impl.Lock{{Writer: -1, Readers: []int64{gors - 1}}}}
		over := impl.Scene{Gors: gors, Locks: []impl.Lock{{Writer: -1, Readers: []int64{gors}}}}
		all = append(all, sceneCase{"the last writer", last, right}, sceneCase{"one past the last writer", past, false},
			sceneCase{"the last reader", read, right}, sceneCase{"one past the last reader", over, false})
	}
	return all
}

// One wrong thing makes a scene wrong, whatever else is right in it.
func mixedCases() []sceneCase {
	all := []sceneCase{{"the zero Scene", impl.Scene{}, false}}
	for _, s := range rightScenes() {
		all = append(all, sceneCase{"right", s, true})
	}
	spoilt := func(what string, change func(*impl.Scene)) {
		for _, s := range []impl.Scene{busyScene(), fullScene()} {
			change(&s)
			all = append(all, sceneCase{what, s, false})
		}
	}
	spoilt("Gors 0", func(s *impl.Scene) { s.Gors = 0 })
	spoilt("Gors 17", func(s *impl.Scene) { s.Gors = 17 })
	spoilt("Gors 1 and more goroutines that have locks", func(s *impl.Scene) { s.Gors = 1 })
	spoilt("a lock that nobody has", func(s *impl.Scene) { s.Locks[0] = impl.Lock{Obj: s.Locks[0].Obj, Writer: -1} })
	spoilt("a last lock that falls", func(s *impl.Scene) { s.Locks[len(s.Locks)-1].Obj = 0 })
	spoilt("a last channel that falls", func(s *impl.Scene) { s.Chans[len(s.Chans)-1].Obj = 0 })
	spoilt("a Sent too many", func(s *impl.Scene) { s.Chans[0].Sent = most + 1 })
	spoilt("a last group that falls", func(s *impl.Scene) { s.Groups[len(s.Groups)-1].Obj = 0 })
	spoilt("N 0", func(s *impl.Scene) { s.Groups[0].N = 0 })
	spoilt("a last once that falls", func(s *impl.Scene) { s.Onces[len(s.Onces)-1] = 0 })
	return all
}

func sceneCases() []sceneCase {
	return slices.Concat(locksCases(), chansCases(), groupsCases(), oncesCases(), gorsCases(), mixedCases())
}

func TestSceneOk(t *testing.T) {
	for _, c := range sceneCases() {
		given := roomyScene(c.scene)
		if impl.SceneOk(given) != c.ok {
			t.Errorf("%s: SceneOk(%+v) is not %v", c.what, c.scene, c.ok)
		}
		staysScene(t, "SceneOk, "+c.what, given, c.scene)
	}
}

// What is right of a scene's parts is right of them all together.
func TestSceneOkOfPartsTogether(t *testing.T) {
	for _, l := range locksCases() {
		for _, c := range chansCases() {
			for _, g := range groupsCases() {
				s := impl.Scene{Gors: 3, Locks: l.scene.Locks, Chans: c.scene.Chans, Groups: g.scene.Groups, Onces: []int64{2, 4}}
				if want := l.ok && c.ok && g.ok; impl.SceneOk(s) != want {
					t.Fatalf("%s, %s, %s: SceneOk(%+v) is not %v", l.what, c.what, g.what, s, want)
				}
			}
		}
	}
}

func TestWrongScenes(t *testing.T) {
	events := append(someOfEach(), impl.Event{}, impl.Event{Kind: impl.EvGo, Obj: 1}, impl.Event{Kind: impl.EvLoad}, impl.Event{Kind: impl.EvLoad, Gor: 16}, impl.Event{Kind: 23})
	for _, c := range sceneCases() {
		for _, e := range events {
			if c.ok {
				follows(t, c.what, c.scene, e)
			} else {
				holds(t, c.what, c.scene, e, impl.Scene{}, codeEvent)
			}
		}
	}
}

// A dice is a row of numbers that is always the same.
type dice uint64

func (d *dice) below(n int64) int64 {
	*d = *d*6364136223846793005 + 1442695040888963407
	return int64(uint64(*d)>>33) % n
}

// event is right for most throws; few objects make it meet what is there.
func (d *dice) event(gors int64, objs int64) impl.Event {
	c := kindCases()[d.below(22)]
	f := c.leasts()
	for i, s := range c.fields {
		f[i] = s.least + d.below(s.most-s.least+1)
	}
	if c.sum&1 == 1 {
		f[atObj] = d.below(objs)
	}
	if c.kind == impl.EvGo {
		f[atObj] = d.below(16)
	}
	if c.kind == impl.EvMeet {
		f[atWith] = d.below(gors + 1)
	}
	if c.kind == impl.EvMake {
		f[atSize] = d.below(4)
	}
	return eventOf(c.kind, d.below(min(gors+1, 16)), f)
}

// Promise 4, along long walks from NewScene on: what can't be done changes nothing, and no lock has a writer and another one.
func TestWalksFromNewScene(t *testing.T) {
	met := map[int64]int{}
	for walk := range int64(40) {
		d := dice(walk)
		s := impl.NewScene()
		p := plainOf(s)
		for range 500 {
			e := d.event(s.Gors, 1+walk%16)
			code := p.codeOf(e)
			if code == codeOk {
				p.do(e)
			}
			holds(t, fmt.Sprint("walk ", walk), s, e, p.told(), code)
			next, _ := impl.Done(s, e)
			if !impl.SceneOk(next) {
				t.Fatalf("walk %d: %+v is not SceneOk", walk, next)
			}
			for _, l := range next.Locks {
				if (l.Writer == -1) == (len(l.Readers) == 0) {
					t.Fatalf("walk %d: the lock %+v is had by nobody, or by a writer and readers", walk, l)
				}
			}
			met[code*100+e.Kind]++
			s = next
		}
	}
	for kind := int64(1); kind <= 22; kind++ {
		if met[kind] == 0 {
			t.Errorf("no event of Kind %d was done", kind)
		}
		if kind > 1 && met[codeGor*100+kind] == 0 {
			t.Errorf("no event of Kind %d had no goroutine", kind)
		}
	}
	for _, code := range []int64{codeGor, codeHeld, codeNot, codeChan, codeClosed, codeFull, codeEmpty, codeCount, codeOnce} {
		n := 0
		for kind := int64(1); kind <= 22; kind++ {
			n += met[code*100+kind]
		}
		if n == 0 {
			t.Errorf("the code %d was never met", code)
		}
	}
}

// Each list of an answer is by itself: the Readers of two locks, the Readers and the Onces, and all others.
func TestListsOfOneSceneAreApart(t *testing.T) {
	for i, s := range rightScenes() {
		for _, e := range append(someOfEach(), impl.Event{Kind: impl.EvLoad}, impl.Event{Kind: impl.EvRLock, Obj: 7}, impl.Event{Kind: impl.EvRUnlock, Gor: 3, Obj: 7}, impl.Event{Kind: impl.EvRUnlock, Gor: 0, Obj: 9}, impl.Event{Kind: impl.EvOnce, Obj: 2}, impl.Event{}) {
			listsApart(t, fmt.Sprint("scene ", i), func() impl.Scene {
				got, _ := impl.Done(roomyScene(s), e)
				return got
			})
		}
	}
	listsApart(t, "NewScene", impl.NewScene)
}

// What is given may share memory list with list; what is answered must not.
func TestListsOfASceneThatSharesItsOwn(t *testing.T) {
	one := roomy([]int64{0, 1, 2})
	given := impl.Scene{Gors: 6, Locks: []impl.Lock{{Obj: 1, Writer: -1, Readers: one}, {Obj: 4, Writer: -1, Readers: one[:2]}, {Obj: 5, Writer: -1, Readers: one}}, Onces: one}
	for _, e := range []impl.Event{{Kind: impl.EvLoad}, {Kind: impl.EvRLock, Gor: 5, Obj: 1}, {Kind: impl.EvRLock, Gor: 2, Obj: 4}, {Kind: impl.EvRUnlock, Gor: 0, Obj: 5}, {Kind: impl.EvOnce, Obj: 9}, {Kind: impl.EvOnce, Obj: 1}, {}} {
		follows(t, "shared", given, e)
		listsApart(t, "shared", func() impl.Scene {
			got, _ := impl.Done(given, e)
			return got
		})
		stays(t, "shared", one, []int64{0, 1, 2})
	}
}

// An answer goes on by itself: two that follow it don't meet in its spare room.
func TestTwoThatFollowOneScene(t *testing.T) {
	s := after(t, impl.Scene{Gors: 6}, impl.Event{Kind: impl.EvRLock, Gor: 2, Obj: 3}, impl.Event{Kind: impl.EvRLock, Gor: 3, Obj: 3}, impl.Event{Kind: impl.EvOnce, Obj: 4}, impl.Event{Kind: impl.EvMake, Obj: 4, Size: 2}, impl.Event{Kind: impl.EvAdd, Obj: 4, Size: 2})
	was := roomyScene(s)
	for _, e := range eventsBeside() {
		for _, f := range []impl.Event{{Kind: impl.EvRLock, Gor: 4, Obj: 3}, {Kind: impl.EvRUnlock, Gor: 2, Obj: 3}, {Kind: impl.EvOnce, Obj: 9}, {Kind: impl.EvSend, Obj: 4}, {Kind: impl.EvDone, Obj: 4}, {Kind: impl.EvMake, Obj: 9}} {
			first, _ := impl.Done(s, e)
			kept := roomyScene(first)
			second, _ := impl.Done(s, f)
			third, _ := impl.Done(first, f)
			for _, write := range append(spoilersOf(second), spoilersOf(third)...) {
				write()
			}
			if !sameScene(first, kept) {
				t.Fatalf("%+v and then %+v: %+v became %+v", e, f, kept, first)
			}
		}
	}
	staysScene(t, "followed twice", roomyScene(s), was)
}

// A scene that was refused leaves nothing behind for the next call.
func TestScenesKeepNothing(t *testing.T) {
	s := busyScene()
	for range 3 {
		impl.Done(impl.Scene{}, impl.Event{Kind: impl.EvLoad})
		impl.Done(s, impl.Event{Kind: impl.EvLock, Obj: 1})
		impl.Done(s, impl.Event{Kind: impl.EvLock, Obj: 2})
		impl.CodeIn(fullScene(), impl.Event{})
		follows(t, "behind others", s, impl.Event{Kind: impl.EvLock, Obj: 2})
		if got := impl.NewScene(); !sameScene(got, impl.Scene{Gors: 1}) {
			t.Errorf("NewScene is %+v", got)
		}
	}
}
