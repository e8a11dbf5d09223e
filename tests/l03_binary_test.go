package tests

import (
	"math"
	"slices"
	"testing"

	"loop.example/g00720/impl"
)

const greatest = 4398046511103

// spareByte is a whole number by itself: a read past the end of a slice takes it for one.
const spareByte = 1

// spareEvent is right: a read past the end of a list takes it for one of the list.
var spareEvent = impl.Event{Kind: impl.EvLock, Gor: 9, Obj: 9}

// bytesOf is the chapter's sentence on numbers, without the program.
func bytesOf(n int64) []byte {
	if n < 128 {
		return []byte{byte(n)}
	}
	return append([]byte{byte(128 + n%128)}, bytesOf(n/128)...)
}

// numberAt asks of each beginning of what is left whether it is the one form of its number.
func numberAt(b []byte, at int64) (int64, int64, bool) {
	if at < 0 || at >= int64(len(b)) {
		return 0, at, false
	}
	rest := b[at:]
	worth := int64(1)
	n := int64(0)
	for size := 1; size <= 6 && size <= len(rest); size++ {
		n += int64(rest[size-1]%128) * worth
		worth *= 128
		if slices.Equal(bytesOf(n), rest[:size]) {
			return n, at + int64(size), true
		}
	}
	return 0, at, false
}

// spellOf is the chapter's sentence on events, by the table of the tests.
func spellOf(e impl.Event) []byte {
	all := append(bytesOf(e.Kind), bytesOf(e.Gor)...)
	fields := [fieldCount]int64{e.Obj, e.With, e.Lo, e.Size, e.Fn, e.Site}
	for i, s := range kindCases()[e.Kind-1].fields {
		if s.named {
			all = append(all, bytesOf(fields[i])...)
		}
	}
	return all
}

func spellAll(list []impl.Event) []byte {
	all := []byte{82, 50, 49}
	for _, e := range list {
		all = append(all, spellOf(e)...)
	}
	return all
}

// eventAt reads one event by the table of the tests: it, where it ends, and the code.
func eventAt(b []byte, at int64) (impl.Event, int64, int64) {
	kind, at, is := numberAt(b, at)
	if !is {
		return impl.Event{}, at, 2
	}
	if kind < 1 || kind > 22 {
		return impl.Event{}, at, 3
	}
	gor, at, is := numberAt(b, at)
	if !is {
		return impl.Event{}, at, 2
	}
	right := gor <= 15
	var f [fieldCount]int64
	for i, s := range kindCases()[kind-1].fields {
		if !s.named {
			continue
		}
		if f[i], at, is = numberAt(b, at); !is {
			return impl.Event{}, at, 2
		}
		right = right && s.least <= f[i] && f[i] <= s.most
	}
	if !right {
		return impl.Event{}, at, 3
	}
	return eventOf(kind, gor, f), at, 0
}

// eventsOf is the chapter's sentence on Decoded, without the program.
func eventsOf(b []byte) ([]impl.Event, int64) {
	if len(b) < 3 || b[0] != 82 || b[1] != 50 || b[2] != 49 {
		return nil, 1
	}
	var list []impl.Event
	for at := int64(3); at < int64(len(b)); {
		if len(list) == 300 {
			return list, 4
		}
		e, end, code := eventAt(b, at)
		if code != 0 {
			return list, code
		}
		list = append(list, e)
		at = end
	}
	return list, 0
}

// decodes fails where Decoded does not answer these events and this code, or where what has no fault is not encoded to the same bytes.
func decodes(t *testing.T, what string, b []byte, list []impl.Event, code int64) {
	t.Helper()
	got, told := impl.Decoded(b)
	if told != code || !slices.Equal(got, list) {
		t.Errorf("%s: %v is decoded to %v and %d, not to %v and %d", what, b, got, told, list, code)
	}
	if told != 0 {
		return
	}
	if again, is := impl.Encoded(got); !is || !slices.Equal(again, b) {
		t.Errorf("%s: %v is decoded, and then encoded to %v, %v", what, b, again, is)
	}
}

// encodes fails where a list is not encoded to its spelling, or does not come back from it.
func encodes(t *testing.T, what string, list []impl.Event) {
	t.Helper()
	b, is := impl.Encoded(list)
	if !is || !slices.Equal(b, spellAll(list)) {
		t.Errorf("%s: %v is encoded to %v, %v", what, list, b, is)
	}
	decodes(t, what, b, list, 0)
}

// tracesOf cuts right events of every Kind into lists of at most that many.
func tracesOf(size int) [][]impl.Event {
	return slices.Collect(slices.Chunk(rightEvents(), size))
}

// fullTrace has just as many events as may be, of every Kind.
func fullTrace() []impl.Event {
	all := rightEvents()
	for len(all) < 300 {
		all = append(all, rightEvents()...)
	}
	return all[:300]
}

// someOfEach has one event of every Kind, none of whose fields is at an end.
func someOfEach() []impl.Event {
	var all []impl.Event
	for _, c := range kindCases() {
		all = append(all, eventOf(c.kind, c.kind%16, c.middles()))
	}
	return all
}

// stringsOver calls with every string of that many of these bytes.
func stringsOver(alphabet []byte, size int, call func([]byte)) {
	b := make([]byte, size)
	var fill func(int)
	fill = func(at int) {
		if at == size {
			call(b)
			return
		}
		for _, x := range alphabet {
			b[at] = x
			fill(at + 1)
		}
	}
	fill(0)
}

// numbersBeside are those at and beside each power of two that is a number.
func numbersBeside() []int64 {
	var all []int64
	for shift := range 42 {
		for d := int64(-2); d <= 2; d++ {
			if n := int64(1)<<shift + d; n >= 0 {
				all = append(all, n)
			}
		}
	}
	return append(all, greatest-2, greatest-1, greatest)
}

func noNumbers() []int64 {
	return []int64{math.MinInt64, math.MinInt64 + 1, -greatest - 1, -greatest, -1 << 32, -129, -128, -127, -1, greatest + 1, greatest + 2, 1 << 43, 1 << 49, 1<<49 - 1, math.MaxInt64 - 1, math.MaxInt64}
}

func TestLimitsAndCodesOfBytes(t *testing.T) {
	if impl.MaxNumber != greatest || impl.MaxEvents != 300 {
		t.Error(int64(impl.MaxNumber), impl.MaxEvents)
	}
	if impl.DcOk != 0 || impl.DcHeader != 1 || impl.DcNumber != 2 || impl.DcEvent != 3 || impl.DcMany != 4 {
		t.Error(impl.DcOk, impl.DcHeader, impl.DcNumber, impl.DcEvent, impl.DcMany)
	}
}

func TestPutNumberExamples(t *testing.T) {
	for _, c := range []struct {
		n    int64
		want []byte
	}{
		{0, []byte{0}},
		{1, []byte{1}},
		{127, []byte{127}},
		{128, []byte{128, 1}},
		{129, []byte{129, 1}},
		{300, []byte{172, 2}},
		{1<<14 - 1, []byte{255, 127}},
		{1 << 14, []byte{128, 128, 1}},
		{1<<21 - 1, []byte{255, 255, 127}},
		{1 << 21, []byte{128, 128, 128, 1}},
		{1<<28 - 1, []byte{255, 255, 255, 127}},
		{1 << 28, []byte{128, 128, 128, 128, 1}},
		{1<<35 - 1, []byte{255, 255, 255, 255, 127}},
		{1 << 35, []byte{128, 128, 128, 128, 128, 1}},
		{greatest, []byte{255, 255, 255, 255, 255, 127}},
	} {
		if got, is := impl.PutNumber(c.n); !is || !slices.Equal(got, c.want) {
			t.Errorf("PutNumber(%d) is %v, %v, not %v", c.n, got, is, c.want)
		}
	}
}

func TestPutNumberComesBack(t *testing.T) {
	for _, n := range numbersBeside() {
		b, is := impl.PutNumber(n)
		if !is || !slices.Equal(b, bytesOf(n)) {
			t.Errorf("PutNumber(%d) is %v, %v", n, b, is)
		}
		if got, end, is := impl.ReadNumber(b, 0); got != n || end != int64(len(b)) || !is {
			t.Errorf("of %d comes back %d, %d, %v", n, got, end, is)
		}
	}
}

func TestPutNumberOfNone(t *testing.T) {
	for _, n := range noNumbers() {
		if got, is := impl.PutNumber(n); is || len(got) != 0 {
			t.Errorf("PutNumber(%d) is %v, %v", n, got, is)
		}
	}
}

func TestReadNumberExamples(t *testing.T) {
	for _, c := range []struct {
		what string
		b    []byte
		at   int64
		n    int64
		end  int64
		is   bool
	}{
		{"nothing", nil, 0, 0, 0, false},
		{"0", []byte{0}, 0, 0, 1, true},
		{"0, with 0 behind", []byte{0, 0}, 0, 0, 1, true},
		{"one byte", []byte{127}, 0, 127, 1, true},
		{"two", []byte{128, 1}, 0, 128, 2, true},
		{"two, inside", []byte{9, 172, 2, 9}, 1, 300, 3, true},
		{"the second of two", []byte{9, 172, 2, 9}, 2, 2, 3, true},
		{"three", []byte{128, 128, 1}, 0, 1 << 14, 3, true},
		{"four", []byte{128, 128, 128, 1}, 0, 1 << 21, 4, true},
		{"five", []byte{128, 128, 128, 128, 1}, 0, 1 << 28, 5, true},
		{"six", []byte{128, 128, 128, 128, 128, 1}, 0, 1 << 35, 6, true},
		{"the greatest", []byte{255, 255, 255, 255, 255, 127}, 0, greatest, 6, true},
		{"seven", []byte{128, 128, 128, 128, 128, 128, 1}, 0, 0, 0, false},
		{"seven, full", []byte{255, 255, 255, 255, 255, 255, 127}, 0, 0, 0, false},
		{"seven, from the second on", []byte{128, 128, 128, 128, 128, 128, 1}, 1, 1 << 35, 7, true},
		{"ten, as others write -1", []byte{255, 255, 255, 255, 255, 255, 255, 255, 255, 1}, 0, 0, 0, false},
		{"broken off", []byte{128}, 0, 0, 0, false},
		{"broken off, inside", []byte{1, 2, 129, 130}, 2, 0, 2, false},
		{"broken off after five", []byte{128, 128, 128, 128, 128}, 0, 0, 0, false},
		{"broken off after six", []byte{128, 128, 128, 128, 128, 128}, 0, 0, 0, false},
		{"a 0 that could be left out", []byte{128, 0}, 0, 0, 0, false},
		{"a 0 that could be left out, of 1", []byte{129, 0}, 0, 0, 0, false},
		{"a 0 that could be left out, and one behind", []byte{129, 0, 1}, 0, 0, 0, false},
		{"a third 0", []byte{7, 129, 129, 0}, 1, 0, 1, false},
		{"a sixth 0", []byte{128, 128, 128, 128, 129, 0}, 0, 0, 0, false},
		{"a seventh 0", []byte{128, 128, 128, 128, 128, 129, 0}, 0, 0, 0, false},
		{"noughts inside", []byte{128, 128, 1}, 0, 1 << 14, 3, true},
		{"the end", []byte{1, 2}, 2, 0, 2, false},
		{"behind the end", []byte{1, 2}, 3, 0, 3, false},
		{"ahead", []byte{1, 2}, -1, 0, -1, false},
		{"far ahead", []byte{1, 2}, math.MinInt64, 0, math.MinInt64, false},
		{"far behind", []byte{1, 2}, math.MaxInt64, 0, math.MaxInt64, false},
		{"behind by a word", []byte{1, 2}, 1 << 32, 0, 1 << 32, false},
		{"ahead by a word", []byte{1, 2}, -1 << 32, 0, -1 << 32, false},
	} {
		n, end, is := impl.ReadNumber(c.b, c.at)
		if n != c.n || end != c.end || is != c.is {
			t.Errorf("%s: ReadNumber(%v, %d) is %d, %d, %v", c.what, c.b, c.at, n, end, is)
		}
	}
}

// readsAlike holds ReadNumber against numberAt, at every place and far off.
func readsAlike(t *testing.T, b []byte) {
	t.Helper()
	places := oddNumbers()
	for at := int64(-2); at <= int64(len(b))+2; at++ {
		places = append(places, at)
	}
	for _, at := range places {
		n, end, is := impl.ReadNumber(b, at)
		m, stop, was := numberAt(b, at)
		if n != m || end != stop || is != was {
			t.Errorf("ReadNumber(%v, %d) is %d, %d, %v, not %d, %d, %v", b, at, n, end, is, m, stop, was)
		}
	}
}

func TestReadNumberOfShortBytes(t *testing.T) {
	for size := range 5 {
		stringsOver([]byte{0, 1, 127, 128, 129, 255}, size, func(b []byte) { readsAlike(t, b) })
	}
}

func TestReadNumberOfLongBytes(t *testing.T) {
	for size := 5; size <= 8; size++ {
		stringsOver([]byte{0, 1, 128, 255}, size, func(b []byte) {
			n, end, is := impl.ReadNumber(b, 0)
			m, stop, was := numberAt(b, 0)
			if n != m || end != stop || is != was {
				t.Errorf("ReadNumber(%v, 0) is %d, %d, %v, not %d, %d, %v", b, n, end, is, m, stop, was)
			}
		})
	}
}

func TestReadNumberAtEveryPlaceOfManyNumbers(t *testing.T) {
	var all []byte
	for _, n := range numbersBeside() {
		all = append(all, bytesOf(n)...)
	}
	readsAlike(t, all)
	at := int64(0)
	for _, want := range numbersBeside() {
		n, end, is := impl.ReadNumber(all, at)
		if n != want || !is {
			t.Fatalf("at %d is %d, %v, not %d", at, n, is, want)
		}
		at = end
	}
	if at != int64(len(all)) {
		t.Errorf("the last number ends at %d of %d", at, len(all))
	}
}

// What is broken off is not made whole by the room behind the slice.
func TestReadNumberOfWhatIsCutOff(t *testing.T) {
	for _, n := range numbersBeside() {
		b := bytesOf(n)
		for size := range len(b) {
			cut := padded(b[:size], spareByte)
			if got, end, is := impl.ReadNumber(cut, 0); got != 0 || end != 0 || is {
				t.Errorf("ReadNumber(%v, 0) is %d, %d, %v", cut, got, end, is)
			}
		}
	}
}

func TestEncodedExamples(t *testing.T) {
	for _, c := range []struct {
		what string
		list []impl.Event
		want []byte
	}{
		{"nil", nil, []byte{82, 50, 49}},
		{"nothing", []impl.Event{}, []byte{82, 50, 49}},
		{"a goroutine", []impl.Event{{Kind: impl.EvGo, Obj: 1}}, []byte{82, 50, 49, 1, 0, 1}},
		{"a channel", []impl.Event{{Kind: impl.EvMake, Gor: 2, Obj: 3, Size: 8}}, []byte{82, 50, 49, 6, 2, 3, 8}},
		{"a meeting", []impl.Event{{Kind: impl.EvMeet, Gor: 2, Obj: 3, With: 4}}, []byte{82, 50, 49, 9, 2, 3, 4}},
		{"more to wait for", []impl.Event{{Kind: impl.EvAdd, Gor: 2, Obj: 3, Size: 9}}, []byte{82, 50, 49, 12, 2, 3, 9}},
		{"a swap", []impl.Event{{Kind: impl.EvSwap, Gor: 15, Obj: 15}}, []byte{82, 50, 49, 19, 15, 15}},
		{"a read", []impl.Event{{Kind: impl.EvRead, Gor: 1, Lo: 2, Size: 3, Fn: 4, Site: 5}}, []byte{82, 50, 49, 20, 1, 2, 3, 4, 5}},
		{"a write far up", []impl.Event{{Kind: impl.EvWrite, Lo: 65535, Size: 8, Fn: 999, Site: 128}}, []byte{82, 50, 49, 21, 0, 255, 255, 3, 8, 231, 7, 128, 1}},
		{"new bytes", []impl.Event{{Kind: impl.EvFresh, Lo: 127, Size: 64}}, []byte{82, 50, 49, 22, 0, 127, 64}},
		{"two", []impl.Event{{Kind: impl.EvGo, Obj: 1}, {Kind: impl.EvWrite, Gor: 1, Lo: 300, Size: 4, Fn: 2, Site: 5}}, []byte{82, 50, 49, 1, 0, 1, 21, 1, 172, 2, 4, 2, 5}},
	} {
		if got, is := impl.Encoded(c.list); !is || !slices.Equal(got, c.want) {
			t.Errorf("%s: %v, %v, not %v", c.what, got, is, c.want)
		}
		encodes(t, c.what, c.list)
	}
}

func TestDecodedOfEncodedIsTheList(t *testing.T) {
	for _, size := range []int{1, 2, 7, 100, 198, 300} {
		for _, list := range tracesOf(size) {
			encodes(t, "right events", list)
		}
	}
	encodes(t, "one of each", someOfEach())
}

func TestEncodedAtMaxEvents(t *testing.T) {
	full := fullTrace()
	encodes(t, "one less", full[:299])
	encodes(t, "all that may be", full)
	for _, more := range []int{1, 2, 300, 70000} {
		list := append(slices.Clone(full), slices.Repeat(full[:1], more)...)
		if b, is := impl.Encoded(list); is || len(b) != 0 {
			t.Errorf("%d events are encoded to %d bytes, %v", len(list), len(b), is)
		}
	}
}

func TestEncodedRefusesWrongEvents(t *testing.T) {
	for _, e := range wrongEvents() {
		if b, is := impl.Encoded([]impl.Event{e}); is || len(b) != 0 {
			t.Errorf("%+v is encoded to %v, %v", e, b, is)
		}
	}
	right := someOfEach()
	for i := range right {
		list := slices.Clone(right)
		list[i].Gor = 16
		if b, is := impl.Encoded(list); is || len(b) != 0 {
			t.Errorf("a wrong event at %d is encoded to %v, %v", i, b, is)
		}
	}
}

func TestDecodedOfHeaders(t *testing.T) {
	decodes(t, "nil", nil, nil, impl.DcHeader)
	decodes(t, "no byte", []byte{}, nil, impl.DcHeader)
	decodes(t, "one", []byte{82}, nil, impl.DcHeader)
	decodes(t, "two", []byte{82, 50}, nil, impl.DcHeader)
	decodes(t, "three", []byte{82, 50, 49}, nil, impl.DcOk)
	decodes(t, "the other way round", []byte{49, 50, 82}, nil, impl.DcHeader)
	decodes(t, "one behind", []byte{0, 82, 50, 49}, nil, impl.DcHeader)
	whole := spellAll(someOfEach())
	for at := range 3 {
		for x := range 256 {
			b := slices.Clone(whole)
			b[at] = byte(x)
			if b[at] != whole[at] {
				decodes(t, "another first byte", b, nil, impl.DcHeader)
				decodes(t, "another first byte, and none behind", b[:3], nil, impl.DcHeader)
			}
		}
	}
	cut := padded([]byte{82, 50}, 49)
	decodes(t, "a header in the room behind", cut, nil, impl.DcHeader)
}

// At a cut behind an event all is right; at any other one a number is missing.
func TestDecodedOfCutTraces(t *testing.T) {
	for _, list := range append(tracesOf(23), someOfEach()) {
		b := spellAll(list)
		at := 3
		for i, e := range list {
			size := len(spellOf(e))
			decodes(t, "cut behind an event", padded(b[:at], spareByte), list[:i], impl.DcOk)
			for cut := at + 1; cut < at+size; cut++ {
				decodes(t, "cut inside an event", padded(b[:cut], spareByte), list[:i], impl.DcNumber)
			}
			at += size
		}
	}
}

func TestDecodedOfFaults(t *testing.T) {
	ahead := []impl.Event{{Kind: impl.EvGo, Obj: 1}, {Kind: impl.EvLock, Gor: 1, Obj: 8}}
	for _, c := range []struct {
		what string
		tail []byte
		code int64
	}{
		{"the Kind 0", []byte{0}, impl.DcEvent},
		{"the Kind 0 and fields", []byte{0, 0, 0, 0, 0, 0, 0, 0}, impl.DcEvent},
		{"the Kind 23", []byte{23}, impl.DcEvent},
		{"the Kind 23, and a broken number", []byte{23, 128}, impl.DcEvent},
		{"the Kind 24 and what follows", []byte{24, 0, 1}, impl.DcEvent},
		{"the Kind 127", []byte{127}, impl.DcEvent},
		{"the Kind 128", []byte{128, 1}, impl.DcEvent},
		{"the Kind 1<<32 and 1", bytesOf(1<<32 + 1), impl.DcEvent},
		{"the greatest Kind", bytesOf(greatest), impl.DcEvent},
		{"a Kind that is broken off", []byte{129}, impl.DcNumber},
		{"a Kind of seven bytes", []byte{129, 128, 128, 128, 128, 128, 1}, impl.DcNumber},
		{"a Kind that could be shorter", []byte{129, 0}, impl.DcNumber},
		{"a Kind that is none and could be shorter", []byte{128, 0}, impl.DcNumber},
		{"a Kind alone", []byte{2}, impl.DcNumber},
		{"a Gor that could be shorter", []byte{2, 128, 0, 1}, impl.DcNumber},
		{"no field", []byte{2, 1}, impl.DcNumber},
		{"a field that could be shorter", []byte{2, 1, 129, 0}, impl.DcNumber},
		{"a field of seven bytes", []byte{2, 1, 129, 128, 128, 128, 128, 128, 1}, impl.DcNumber},
		{"a wrong Gor", []byte{2, 16, 1}, impl.DcEvent},
		{"a wrong Gor, and no field", []byte{2, 16}, impl.DcNumber},
		{"a wrong Gor, and a broken field", []byte{2, 16, 128}, impl.DcNumber},
		{"the greatest Gor", append(append([]byte{2}, bytesOf(greatest)...), 1), impl.DcEvent},
		{"a wrong Obj", []byte{2, 1, 16}, impl.DcEvent},
		{"a wrong Obj of EvGo", []byte{1, 1, 16}, impl.DcEvent},
		{"a wrong Obj, and a broken number behind the event", []byte{2, 1, 16, 128}, impl.DcEvent},
		{"a wrong With", []byte{9, 1, 1, 16}, impl.DcEvent},
		{"a wrong Obj, and no With", []byte{9, 1, 16}, impl.DcNumber},
		{"a channel for 9", []byte{6, 1, 1, 9}, impl.DcEvent},
		{"none more to wait for", []byte{12, 1, 1, 0}, impl.DcEvent},
		{"10 more to wait for", []byte{12, 1, 1, 10}, impl.DcEvent},
		{"a wrong Lo", append(append([]byte{20, 1}, bytesOf(65536)...), 1, 1, 1), impl.DcEvent},
		{"a wrong Lo, and no Site", append(append([]byte{20, 1}, bytesOf(65536)...), 1, 1), impl.DcNumber},
		{"no byte", []byte{21, 1, 1, 0, 1, 1}, impl.DcEvent},
		{"no byte, and no Fn", []byte{21, 1, 1, 0}, impl.DcNumber},
		{"9 bytes", []byte{21, 1, 1, 9, 1, 1}, impl.DcEvent},
		{"a wrong Fn", append(append([]byte{21, 1, 1, 1}, bytesOf(1000)...), 1), impl.DcEvent},
		{"a wrong Site", append([]byte{21, 1, 1, 1, 1}, bytesOf(1000)...), impl.DcEvent},
		{"65 new bytes", []byte{22, 1, 1, 65}, impl.DcEvent},
		{"a wrong event, and a right one", []byte{2, 1, 16, 2, 1, 1}, impl.DcEvent},
		{"a wrong number, and a right event", []byte{128, 0, 2, 1, 1}, impl.DcNumber},
	} {
		decodes(t, c.what+", first", append([]byte{82, 50, 49}, c.tail...), nil, c.code)
		decodes(t, c.what+", behind two", append(spellAll(ahead), c.tail...), ahead, c.code)
		decodes(t, c.what+", behind all but one", append(spellAll(fullTrace()[:299]), c.tail...), fullTrace()[:299], c.code)
	}
}

// A field that is past its end is told behind all fields, whichever it is.
func TestDecodedOfWrongFields(t *testing.T) {
	for _, c := range kindCases() {
		for i, s := range c.fields {
			if !s.named {
				continue
			}
			for _, n := range []int64{s.most + 1, s.most + 1<<16, s.most + 1<<32, greatest} {
				f := c.middles()
				f[i] = n
				tail := spellOf(eventOf(c.kind, 3, f))
				whole := append([]byte{82, 50, 49}, tail...)
				decodes(t, "a wrong field", whole, nil, impl.DcEvent)
				decodes(t, "a wrong field and no last byte", whole[:len(whole)-1], nil, impl.DcNumber)
			}
		}
	}
}

func TestDecodedAtMaxEvents(t *testing.T) {
	full := fullTrace()
	b := spellAll(full)
	decodes(t, "all that may be", b, full, impl.DcOk)
	for x := range 256 {
		decodes(t, "one byte more", append(slices.Clone(b), byte(x)), full, impl.DcMany)
	}
	for _, tail := range [][]byte{spellOf(full[0]), {2, 1, 16}, {23}, {128}, {128, 0}, {128, 128, 128, 128, 128, 128, 1}, make([]byte, 1000)} {
		decodes(t, "more behind", append(slices.Clone(b), tail...), full, impl.DcMany)
	}
	wrong := append(spellAll(full[:299]), 2, 1, 16)
	decodes(t, "a wrong event at the last place, and more", append(wrong, 2, 1, 1), full[:299], impl.DcEvent)
	others := append([]byte{82, 50, 50}, b[3:]...)
	decodes(t, "another header and more", append(others, 1), nil, impl.DcHeader)
}

// alike holds Decoded against eventsOf, and what has no fault against its bytes.
func alike(t *testing.T, what string, b []byte) {
	t.Helper()
	list, code := eventsOf(b)
	decodes(t, what, b, list, code)
}

func TestDecodedOfShortBytes(t *testing.T) {
	for size := range 6 {
		stringsOver([]byte{0, 1, 2, 9, 16, 128, 255}, size, func(tail []byte) {
			alike(t, "short", append([]byte{82, 50, 49}, tail...))
		})
	}
}

func TestDecodedOfAccesses(t *testing.T) {
	for _, kind := range []byte{20, 21, 22} {
		stringsOver([]byte{0, 1, 9, 128, 231}, 6, func(tail []byte) {
			alike(t, "an access", append([]byte{82, 50, 49, kind, 1}, tail...))
		})
	}
}

func TestDecodedOfChangedBytes(t *testing.T) {
	for _, list := range append(tracesOf(50), someOfEach()) {
		b := spellAll(list)
		for at := range b {
			was := b[at]
			for _, x := range []byte{0, 1, 22, 23, 127, 128, 129, 255, was ^ 1, was ^ 128, was + 1, was - 1} {
				b[at] = x
				alike(t, "a changed byte", b)
			}
			b[at] = was
			alike(t, "a byte left out", slices.Delete(slices.Clone(b), at, at+1))
			alike(t, "a byte twice", slices.Insert(slices.Clone(b), at, was))
		}
	}
}

func TestBytesAreNewMemory(t *testing.T) {
	list := someOfEach()
	given := padded(list, spareEvent)
	b, _ := impl.Encoded(given)
	kept := slices.Clone(b)
	spoilWith(b, 99)
	staysPadded(t, "Encoded", given, list, spareEvent)
	again, is := impl.Encoded(given)
	if !is || !slices.Equal(again, kept) {
		t.Errorf("Encoded answers %v, and then %v", kept, again)
	}

	input := padded(kept, spareByte)
	got, _ := impl.Decoded(input)
	spoilWith(got, impl.Event{Kind: -1})
	staysPadded(t, "Decoded", input, kept, spareByte)
	if more, code := impl.Decoded(input); code != impl.DcOk || !slices.Equal(more, list) {
		t.Errorf("Decoded answers %v and %d", more, code)
	}
	first, _ := impl.Decoded(input)
	spoilWith(input, 7)
	if !slices.Equal(first, list) {
		t.Errorf("an answer of Decoded became %v", first)
	}

	one, _ := impl.PutNumber(300)
	spoilWith(one, 99)
	if two, _ := impl.PutNumber(300); !slices.Equal(two, []byte{172, 2}) {
		t.Errorf("PutNumber(300) is %v", two)
	}
}

func TestBytesLeaveTheirArguments(t *testing.T) {
	for _, e := range append(rightEvents(), wrongEvents()...) {
		list := []impl.Event{spareEvent, e, spareEvent}
		given := padded(list, spareEvent)
		impl.Encoded(given)
		staysPadded(t, "Encoded", given, list, spareEvent)
	}
	many := slices.Repeat(someOfEach(), 20)
	given := padded(many, spareEvent)
	impl.Encoded(given)
	staysPadded(t, "Encoded of too many", given, many, spareEvent)

	for size := range 4 {
		stringsOver([]byte{0, 2, 128, 255}, size, func(tail []byte) {
			for _, b := range [][]byte{tail, append([]byte{82, 50, 49}, tail...)} {
				input := padded(b, spareByte)
				impl.Decoded(input)
				staysPadded(t, "Decoded", input, b, spareByte)
				for _, at := range append(oddNumbers(), 3, 4, 5) {
					impl.ReadNumber(input, at)
				}
				staysPadded(t, "ReadNumber", input, b, spareByte)
			}
		})
	}
}

// A list that was refused leaves nothing behind for the next one.
func TestBytesKeepNothing(t *testing.T) {
	list := someOfEach()
	b := spellAll(list)
	for range 3 {
		impl.Encoded([]impl.Event{{Kind: 99}})
		impl.Decoded([]byte{82, 50, 49, 128})
		impl.ReadNumber([]byte{128}, 0)
		impl.PutNumber(-1)
		encodes(t, "behind refused ones", list)
		decodes(t, "behind refused ones", b, list, impl.DcOk)
	}
}
