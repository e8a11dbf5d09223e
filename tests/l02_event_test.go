package tests

import (
	"math"
	"testing"

	"loop.example/g00720/impl"
)

// The six fields that hang on the Kind, in the document's order.
const (
	atObj = iota
	atWith
	atLo
	atSize
	atFn
	atSite
	fieldCount
)

// A span is what a field may be; an unnamed one may be 0 alone, as the zero span says.
type span struct {
	named       bool
	least, most int64
}

type kindCase struct {
	kind   int64
	sum    int64
	fields [fieldCount]span
}

// kindCases is the document's table, written out apart from the program's: its numbers are not the program's constants.
func kindCases() []kindCase {
	obj := span{true, 0, 15}
	with := span{true, 0, 15}
	lo := span{true, 0, 65535}
	site := span{true, 0, 999}
	var all []kindCase
	for kind := int64(1); kind <= 19; kind++ {
		all = append(all, kindCase{kind, 1, [fieldCount]span{atObj: obj}})
	}
	all[6-1] = kindCase{6, 9, [fieldCount]span{atObj: obj, atSize: {true, 0, 8}}}
	all[9-1] = kindCase{9, 3, [fieldCount]span{atObj: obj, atWith: with}}
	all[12-1] = kindCase{12, 9, [fieldCount]span{atObj: obj, atSize: {true, 1, 9}}}
	access := [fieldCount]span{atLo: lo, atSize: {true, 1, 8}, atFn: site, atSite: site}
	return append(all,
		kindCase{20, 60, access},
		kindCase{21, 60, access},
		kindCase{22, 12, [fieldCount]span{atLo: lo, atSize: {true, 1, 64}}})
}

// eventOf makes an event of its Kind, its Gor and its six fields.
func eventOf(kind int64, gor int64, f [fieldCount]int64) impl.Event {
	return impl.Event{Kind: kind, Gor: gor, Obj: f[atObj], With: f[atWith], Lo: f[atLo], Size: f[atSize], Fn: f[atFn], Site: f[atSite]}
}

func (c kindCase) leasts() [fieldCount]int64 {
	var f [fieldCount]int64
	for i, s := range c.fields {
		f[i] = s.least
	}
	return f
}

func (c kindCase) mosts() [fieldCount]int64 {
	var f [fieldCount]int64
	for i, s := range c.fields {
		f[i] = s.most
	}
	return f
}

// middles holds each field off both of its ends.
func (c kindCase) middles() [fieldCount]int64 {
	var f [fieldCount]int64
	for i, s := range c.fields {
		f[i] = (s.least + s.most) / 2
	}
	return f
}

func (c kindCase) rightEvents() []impl.Event {
	var all []impl.Event
	for _, f := range [][fieldCount]int64{c.leasts(), c.middles(), c.mosts()} {
		for _, gor := range []int64{0, 7, 15} {
			all = append(all, eventOf(c.kind, gor, f))
		}
	}
	return all
}

// wrongEvents are right ones of which one field, or Gor, was put past an end.
func (c kindCase) wrongEvents() []impl.Event {
	var all []impl.Event
	for _, f := range [][fieldCount]int64{c.leasts(), c.middles(), c.mosts()} {
		for _, gor := range []int64{math.MinInt64, -1, 16, 1 << 32, math.MaxInt64} {
			all = append(all, eventOf(c.kind, gor, f))
		}
		for i, s := range c.fields {
			for _, n := range []int64{math.MinInt64, s.least - 1, s.most + 1, s.most + 1<<16, s.most + 1<<32, math.MaxInt64} {
				past := f
				past[i] = n
				all = append(all, eventOf(c.kind, 3, past))
			}
		}
	}
	return all
}

func rightEvents() []impl.Event {
	var all []impl.Event
	for _, c := range kindCases() {
		all = append(all, c.rightEvents()...)
	}
	return all
}

func wrongKinds() []int64 {
	return []int64{math.MinInt64, math.MinInt64 + 1, -1 << 32, -22, -1, 0, 23, 24, 1000, 1<<8 + 1, 1<<16 + 20, 1<<32 + 1, 1<<32 + 21, math.MaxInt64}
}

func wrongEvents() []impl.Event {
	var all []impl.Event
	for _, c := range kindCases() {
		all = append(all, c.wrongEvents()...)
		for _, kind := range wrongKinds() {
			all = append(all, eventOf(kind, 0, c.leasts()), eventOf(kind, 3, c.middles()))
		}
	}
	for _, kind := range wrongKinds() {
		all = append(all, impl.Event{Kind: kind}, impl.Event{Kind: kind, Gor: 1})
	}
	return all
}

func TestLimitsOfEvents(t *testing.T) {
	if impl.MaxObj != 15 || impl.MaxCap != 8 || impl.MaxAddr != 65535 || impl.MaxSite != 999 {
		t.Fatal(impl.MaxObj, impl.MaxCap, impl.MaxAddr, impl.MaxSite)
	}
}

func TestKindsAreNumbered(t *testing.T) {
	for i, kind := range []int64{
		impl.EvGo, impl.EvLock, impl.EvUnlock, impl.EvRLock, impl.EvRUnlock, impl.EvMake, impl.EvSend, impl.EvRecv,
		impl.EvMeet, impl.EvClose, impl.EvSawClose, impl.EvAdd, impl.EvDone, impl.EvWait, impl.EvOnce, impl.EvSawOnce,
		impl.EvLoad, impl.EvStore, impl.EvSwap, impl.EvRead, impl.EvWrite, impl.EvFresh,
	} {
		if kind != int64(i)+1 {
			t.Errorf("the Kind %d stands in the table as %d", kind, i+1)
		}
	}
}

func TestFieldsOf(t *testing.T) {
	for _, c := range kindCases() {
		if got := impl.FieldsOf(c.kind); got != c.sum {
			t.Errorf("FieldsOf(%d) is %d, not %d", c.kind, got, c.sum)
		}
	}
	for _, kind := range wrongKinds() {
		if got := impl.FieldsOf(kind); got != -1 {
			t.Errorf("FieldsOf(%d) is %d", kind, got)
		}
	}
}

// The sums of the table and the spans of the table are two tellings of one thing.
func TestFieldsOfAreTheFieldsThatMayBeOtherThanNought(t *testing.T) {
	for _, c := range kindCases() {
		for i, s := range c.fields {
			if named := impl.FieldsOf(c.kind)>>i&1 == 1; named != s.named {
				t.Errorf("Kind %d, field %d: %v", c.kind, i, named)
			}
			f := c.middles()
			f[i] = 1
			if got := impl.EventOk(eventOf(c.kind, 0, f)); got != s.named {
				t.Errorf("Kind %d, field %d of 1: %v", c.kind, i, got)
			}
		}
	}
}

func TestEventOkAtRightEvents(t *testing.T) {
	for _, e := range rightEvents() {
		if !impl.EventOk(e) {
			t.Errorf("%+v is refused", e)
		}
	}
}

func TestEventOkAtWrongEvents(t *testing.T) {
	for _, e := range wrongEvents() {
		if impl.EventOk(e) {
			t.Errorf("%+v is accepted", e)
		}
	}
}

// Each field by itself at its ends, whatever the others are.
func TestEventOkAtTheEndsOfEachField(t *testing.T) {
	for _, c := range kindCases() {
		for _, f := range [][fieldCount]int64{c.leasts(), c.middles(), c.mosts()} {
			for i, s := range c.fields {
				for _, n := range []int64{s.least, s.most} {
					at := f
					at[i] = n
					if e := eventOf(c.kind, 15, at); !impl.EventOk(e) {
						t.Errorf("%+v is refused", e)
					}
				}
			}
		}
	}
}

func TestEventOkAtTheEndsOfSize(t *testing.T) {
	for _, c := range []struct{ kind, least, most int64 }{
		{impl.EvMake, 0, impl.MaxCap},
		{impl.EvAdd, 1, 9},
		{impl.EvRead, 1, 8},
		{impl.EvWrite, 1, 8},
		{impl.EvFresh, 1, 64},
	} {
		for size := int64(-2); size <= 70; size++ {
			want := c.least <= size && size <= c.most
			if got := impl.EventOk(impl.Event{Kind: c.kind, Size: size}); got != want {
				t.Errorf("Kind %d, Size %d: %v", c.kind, size, got)
			}
		}
	}
}

// A fault in one field is not made good by a fault in another.
func TestEventOkAtTwoFaults(t *testing.T) {
	for _, c := range kindCases() {
		for i, s := range c.fields {
			for j, r := range c.fields {
				for _, n := range []int64{s.least - 1, s.most + 1} {
					for _, m := range []int64{r.least - 1, r.most + 1} {
						f := c.middles()
						f[i] = n
						f[j] = m
						if e := eventOf(c.kind, 0, f); impl.EventOk(e) {
							t.Errorf("%+v is accepted", e)
						}
					}
				}
			}
		}
	}
}

func TestIsAccess(t *testing.T) {
	for _, c := range kindCases() {
		for _, e := range c.rightEvents() {
			if want := c.kind == 20 || c.kind == 21; impl.IsAccess(e) != want {
				t.Errorf("IsAccess(%+v) is not %v", e, want)
			}
		}
	}
	for _, e := range wrongEvents() {
		if impl.IsAccess(e) {
			t.Errorf("%+v is told to be an access", e)
		}
	}
}

func TestCoversExamples(t *testing.T) {
	for _, c := range []struct {
		e    impl.Event
		byt  int64
		want bool
	}{
		{impl.Event{Kind: impl.EvRead, Lo: 10, Size: 4}, 9, false},
		{impl.Event{Kind: impl.EvRead, Lo: 10, Size: 4}, 10, true},
		{impl.Event{Kind: impl.EvRead, Lo: 10, Size: 4}, 13, true},
		{impl.Event{Kind: impl.EvRead, Lo: 10, Size: 4}, 14, false},
		{impl.Event{Kind: impl.EvWrite, Size: 1}, -1, false},
		{impl.Event{Kind: impl.EvWrite, Size: 1}, 0, true},
		{impl.Event{Kind: impl.EvWrite, Size: 1}, 1, false},
		{impl.Event{Kind: impl.EvFresh, Lo: 5, Size: 64}, 4, false},
		{impl.Event{Kind: impl.EvFresh, Lo: 5, Size: 64}, 5, true},
		{impl.Event{Kind: impl.EvFresh, Lo: 5, Size: 64}, 68, true},
		{impl.Event{Kind: impl.EvFresh, Lo: 5, Size: 64}, 69, false},
		{impl.Event{Kind: impl.EvWrite, Lo: impl.MaxAddr, Size: 8}, impl.MaxAddr, true},
		{impl.Event{Kind: impl.EvWrite, Lo: impl.MaxAddr, Size: 8}, impl.MaxAddr + 7, true},
		{impl.Event{Kind: impl.EvWrite, Lo: impl.MaxAddr, Size: 8}, impl.MaxAddr + 8, false},
		{impl.Event{Kind: impl.EvFresh, Lo: impl.MaxAddr, Size: 64}, impl.MaxAddr + 63, true},
		{impl.Event{Kind: impl.EvFresh, Lo: impl.MaxAddr, Size: 64}, impl.MaxAddr + 64, false},
		{impl.Event{Kind: impl.EvLoad}, 0, false},
		{impl.Event{Kind: impl.EvMake, Size: 8}, 0, false},
		{impl.Event{Kind: impl.EvAdd, Size: 9}, 0, false},
		{impl.Event{Kind: impl.EvRead, Lo: 10, Size: 9}, 10, false},
		{impl.Event{Kind: impl.EvFresh, Lo: 10, Size: 65}, 10, false},
		{impl.Event{Kind: impl.EvFresh, Lo: 10, Size: 4, Site: 1}, 10, false},
		{impl.Event{Kind: impl.EvRead, Gor: 16, Lo: 10, Size: 4}, 10, false},
		{impl.Event{}, 0, false},
	} {
		if impl.Covers(c.e, c.byt) != c.want {
			t.Errorf("Covers(%+v, %d) is not %v", c.e, c.byt, c.want)
		}
	}
}

// bytesBeside are those at and beside both ends of what an event may cover, and those far off.
func bytesBeside(e impl.Event) []int64 {
	return append(oddNumbers(), e.Lo-1, e.Lo, e.Lo+1, e.Lo+e.Size-1, e.Lo+e.Size, e.Lo+e.Size+1)
}

func TestCoversRightEvents(t *testing.T) {
	for _, c := range kindCases() {
		for _, e := range c.rightEvents() {
			covered := map[int64]int{}
			if c.kind >= 20 {
				for i := int64(0); i < e.Size; i++ {
					covered[e.Lo+i] = 1
				}
			}
			for _, byt := range bytesBeside(e) {
				if want := covered[byt] == 1; impl.Covers(e, byt) != want {
					t.Errorf("Covers(%+v, %d) is not %v", e, byt, want)
				}
			}
		}
	}
}

func TestCoversWrongEvents(t *testing.T) {
	for _, e := range wrongEvents() {
		for _, byt := range bytesBeside(e) {
			if impl.Covers(e, byt) {
				t.Errorf("%+v is told to cover %d", e, byt)
			}
		}
	}
}

func access(kind int64, gor int64, lo int64, size int64) impl.Event {
	return impl.Event{Kind: kind, Gor: gor, Lo: lo, Size: size, Fn: 1, Site: 2}
}

func TestClashingExamples(t *testing.T) {
	const r, w = impl.EvRead, impl.EvWrite
	for _, c := range []struct {
		what string
		a, b impl.Event
		want bool
	}{
		{"alike", access(w, 1, 10, 4), access(w, 2, 10, 4), true},
		{"a read and a write", access(r, 1, 10, 4), access(w, 2, 10, 4), true},
		{"two reads", access(r, 1, 10, 4), access(r, 2, 10, 4), false},
		{"the last byte and the first", access(w, 1, 10, 4), access(r, 2, 13, 1), true},
		{"the last byte and the first of more", access(w, 1, 10, 4), access(r, 2, 13, 8), true},
		{"side by side", access(w, 1, 10, 4), access(r, 2, 14, 1), false},
		{"side by side, the other side", access(w, 1, 10, 4), access(r, 2, 9, 1), false},
		{"side by side, more", access(w, 1, 10, 4), access(r, 2, 2, 8), false},
		{"far off", access(w, 1, 10, 4), access(w, 2, 1000, 4), false},
		{"one inside the other", access(r, 1, 10, 8), access(w, 2, 13, 2), true},
		{"one goroutine", access(w, 1, 10, 4), access(r, 1, 10, 4), false},
		{"one goroutine, two writes", access(w, 0, 10, 4), access(w, 0, 10, 4), false},
		{"the first and the last goroutine", access(w, 0, 0, 1), access(r, 15, 0, 1), true},
		{"at the last place", access(w, 1, impl.MaxAddr, 1), access(w, 2, impl.MaxAddr, 8), true},
		{"over the last place", access(w, 1, impl.MaxAddr-7, 8), access(w, 2, impl.MaxAddr, 1), true},
		{"ahead of the last place", access(w, 1, impl.MaxAddr-8, 8), access(w, 2, impl.MaxAddr, 1), false},
		{"new bytes", access(w, 1, 10, 4), impl.Event{Kind: impl.EvFresh, Gor: 2, Lo: 10, Size: 4}, false},
		{"an atomic write", access(w, 1, 0, 4), impl.Event{Kind: impl.EvStore, Gor: 2}, false},
		{"no access but with its fields", access(w, 1, 10, 4), access(impl.EvLoad, 2, 10, 4), false},
		{"no goroutine", access(w, 1, 10, 4), access(w, 16, 10, 4), false},
		{"no goroutine, below", access(w, 1, 10, 4), access(w, -1, 10, 4), false},
		{"no byte", access(w, 1, 10, 4), access(w, 2, 11, 0), false},
		{"too many bytes", access(w, 1, 10, 4), access(w, 2, 10, 9), false},
		{"nowhere", access(w, 1, 0, 4), access(w, 2, -1, 4), false},
		{"behind the last place", access(w, 1, impl.MaxAddr, 4), access(w, 2, impl.MaxAddr+1, 4), false},
		{"nothing", access(w, 1, 0, 4), impl.Event{}, false},
	} {
		if impl.Clashing(c.a, c.b) != c.want {
			t.Errorf("%s: %v", c.what, !c.want)
		}
		if impl.Clashing(c.b, c.a) != c.want {
			t.Errorf("%s, the other way round: %v", c.what, !c.want)
		}
	}
}

func TestClashingLooksAtNoSite(t *testing.T) {
	a := impl.Event{Kind: impl.EvWrite, Gor: 1, Lo: 10, Size: 1, Fn: 7, Site: 8}
	for _, n := range []int64{0, 7, 8, 999} {
		for _, m := range []int64{0, 7, 8, 999} {
			b := impl.Event{Kind: impl.EvRead, Gor: 2, Lo: 10, Size: 1, Fn: n, Site: m}
			if !impl.Clashing(a, b) || !impl.Clashing(b, a) {
				t.Errorf("%+v and %+v do not clash", a, b)
			}
		}
	}
}

// clashByBytes is the chapter's sentence, byte by byte, without the program.
func clashByBytes(a impl.Event, b impl.Event) bool {
	reads := a.Kind == 20 && b.Kind == 20
	accesses := (a.Kind == 20 || a.Kind == 21) && (b.Kind == 20 || b.Kind == 21)
	if !accesses || reads || a.Gor == b.Gor {
		return false
	}
	for x := a.Lo; x < a.Lo+a.Size; x++ {
		for y := b.Lo; y < b.Lo+b.Size; y++ {
			if x == y {
				return true
			}
		}
	}
	return false
}

// closeEvents are events that lie on, over and beside each other, of few goroutines.
func closeEvents() []impl.Event {
	var all []impl.Event
	for _, kind := range []int64{impl.EvRead, impl.EvWrite, impl.EvFresh} {
		for _, gor := range []int64{0, 1, 15} {
			for _, lo := range []int64{0, 1, 7, 8, 9, 16, impl.MaxAddr - 1, impl.MaxAddr} {
				for _, size := range []int64{1, 2, 8} {
					all = append(all, impl.Event{Kind: kind, Gor: gor, Lo: lo, Size: size})
				}
			}
		}
	}
	return append(all, rightEvents()...)
}

// Promise 2: who clashes with one clashes the other way round.
func TestClashingBothWaysRound(t *testing.T) {
	all := closeEvents()
	for _, a := range all {
		for _, b := range all {
			want := clashByBytes(a, b)
			if impl.Clashing(a, b) != want || impl.Clashing(b, a) != want {
				t.Fatalf("%+v and %+v: %v one way, %v the other, not %v", a, b, impl.Clashing(a, b), impl.Clashing(b, a), want)
			}
		}
		if impl.Clashing(a, a) {
			t.Fatalf("%+v clashes with itself", a)
		}
	}
}

func TestClashingWithWrongEvents(t *testing.T) {
	for _, wrong := range wrongEvents() {
		over := access(impl.EvWrite, 1, min(max(wrong.Lo, 0), impl.MaxAddr), 8)
		for _, other := range []impl.Event{over, access(impl.EvWrite, 14, 0, 1), access(impl.EvRead, 4, 32767, 8), {}, wrong} {
			if impl.Clashing(wrong, other) || impl.Clashing(other, wrong) {
				t.Fatalf("%+v clashes with %+v", wrong, other)
			}
		}
	}
}

// What both cover by Covers is what makes them clash: the two functions tell of the same bytes.
func TestClashingAgreesWithCovers(t *testing.T) {
	for _, a := range closeEvents() {
		for lo := a.Lo - 9; lo <= a.Lo+9; lo++ {
			b := access(impl.EvWrite, (a.Gor+1)%16, lo, 2)
			shared := impl.Covers(a, lo) && impl.Covers(b, lo) || impl.Covers(a, lo+1) && impl.Covers(b, lo+1)
			want := shared && impl.IsAccess(a) && impl.IsAccess(b)
			if impl.Clashing(a, b) != want {
				t.Fatalf("%+v and %+v: %v", a, b, !want)
			}
		}
	}
}

// Promise 22: every function answers at every argument; the fields are put to the odd numbers two at a time.
func TestEventsAtOddNumbers(t *testing.T) {
	good := access(impl.EvWrite, 1, 0, 8)
	for kind := int64(-1); kind <= 24; kind++ {
		for i := range fieldCount {
			for _, n := range oddNumbers() {
				for _, gor := range oddNumbers() {
					var f [fieldCount]int64
					f[atSize] = 1
					f[i] = n
					e := eventOf(kind, gor, f)
					impl.EventOk(e)
					impl.IsAccess(e)
					impl.Covers(e, n)
					if impl.Clashing(e, good) != impl.Clashing(good, e) {
						t.Fatalf("%+v clashes one way alone", e)
					}
				}
			}
		}
	}
	for _, n := range oddNumbers() {
		if (impl.FieldsOf(n) == -1) != (n < 1 || n > 22) {
			t.Errorf("FieldsOf(%d) is %d", n, impl.FieldsOf(n))
		}
	}
}
