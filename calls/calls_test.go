package calls_test

import (
	"math"
	"reflect"
	"runtime"
	"slices"
	"strconv"
	"strings"
	"testing"

	"lightship/api"
	"lightship/calls"
)

// hand are calls that wait, of which the answers are written out.
type hand struct {
	t *testing.T
	c *calls.Calls
}

func newHand(t *testing.T) hand {
	t.Helper()
	return hand{t, newCalls(t)}
}

func (h hand) ask(w api.Wait, want api.Errno) {
	h.t.Helper()
	before := w
	if err := h.c.Ask(w); err != want {
		h.t.Errorf("Ask %s: %d, want %d", short(w), err, want)
	}
	if w != before {
		h.t.Errorf("Ask %s: it is %s now", short(before), short(w))
	}
}

func (h hand) get(stream, kind int, want api.Wait) {
	h.t.Helper()
	for range 3 {
		if w, has := h.c.Get(stream, kind); w != want || !has {
			h.t.Errorf("Get(%d, %d): %s, %t, want %s, true", stream, kind, short(w), has, short(want))
		}
	}
}

func (h hand) getNone(stream, kind int) {
	h.t.Helper()
	if w, has := h.c.Get(stream, kind); w != (api.Wait{}) || has {
		h.t.Errorf("Get(%d, %d): %s, %t, want none, false", stream, kind, short(w), has)
	}
}

func (h hand) take(stream, kind int, want api.Wait) {
	h.t.Helper()
	if w, had := h.c.Take(stream, kind); w != want || !had {
		h.t.Errorf("Take(%d, %d): %s, %t, want %s, true", stream, kind, short(w), had, short(want))
	}
	h.takeNone(stream, kind)
}

func (h hand) takeNone(stream, kind int) {
	h.t.Helper()
	if w, had := h.c.Take(stream, kind); w != (api.Wait{}) || had {
		h.t.Errorf("Take(%d, %d): %s, %t, want none, false", stream, kind, short(w), had)
	}
	h.getNone(stream, kind)
}

func (h hand) drop(stream int, want ...api.Wait) {
	h.t.Helper()
	if l := h.c.Drop(stream); !slices.Equal(l, want) {
		h.t.Errorf("Drop(%d): %s, want %s", stream, shorts(l), shorts(want))
	}
}

// all: those wait, in that order, and no others.
func (h hand) all(want ...api.Wait) {
	h.t.Helper()
	for range 2 {
		if l := h.c.All(); !slices.Equal(l, want) {
			h.t.Errorf("All: %s, want %s", shorts(l), shorts(want))
		}
		if n := h.c.Len(); n != len(want) {
			h.t.Errorf("Len: %d, want %d", n, len(want))
		}
	}
}

// Promise 29.1: New.

func TestNew(t *testing.T) {
	h := newHand(t)
	for range 2 {
		h.all()
		for _, stream := range append(edges(), noStreams()...) {
			for _, kind := range append(kinds(), noKinds()...) {
				h.getNone(stream, kind)
				h.takeNone(stream, kind)
			}
			h.drop(stream)
		}
		h.all()
	}
}

// Whatever waits of one, of another one that was made behind it none waits.
func TestNewIsEmptyEachTime(t *testing.T) {
	for range 3 {
		h := newHand(t)
		h.all()
		h.ask(some(3, read), api.OK)
		h.all(some(3, read))
	}
}

// The chapter's example, and answers written out.

func TestExample(t *testing.T) {
	for stream := range 256 {
		h := newHand(t)
		first := wait(1, stream, api.CallRead, 5, "")
		h.ask(first, api.OK)
		h.ask(wait(2, stream, api.CallRead, 7, "x"), api.ErrBusy)
		h.get(stream, api.CallRead, first)
		h.all(first)
	}
}

func TestByHand(t *testing.T) {
	h := newHand(t)
	a := wait(11, 7, api.CallWrite, 0, "hello")
	b := wait(12, 7, api.CallRead, 4096, "")
	c := wait(13, 7, api.CallClose, 0, "")
	d := wait(10, 2, api.CallClose, -1, "\x00\xff")
	e := wait(14, 255, api.CallWrite, 3, "x")
	h.ask(c, api.OK)
	h.all(c)
	h.ask(a, api.OK)
	h.all(a, c)
	h.ask(e, api.OK)
	h.all(a, c, e)
	h.ask(d, api.OK)
	h.all(d, a, c, e)
	h.ask(b, api.OK)
	h.all(d, a, b, c, e)
	h.ask(a, api.ErrBusy)
	h.ask(wait(99, 7, api.CallWrite, 1, "other"), api.ErrBusy)
	h.ask(wait(99, 7, api.CallOpen, 1, ""), api.ErrArg)
	h.ask(wait(99, 7, api.CallAbort, 1, ""), api.ErrArg)
	h.ask(wait(99, 7, api.CallStop, 1, ""), api.ErrArg)
	h.ask(wait(99, -1, api.CallRead, 1, ""), api.ErrArg)
	h.ask(wait(99, 256, api.CallWrite, 1, ""), api.ErrArg)
	h.ask(api.Wait{}, api.ErrArg)
	h.all(d, a, b, c, e)
	h.get(7, api.CallRead, b)
	h.getNone(2, api.CallRead)
	h.getNone(7, api.CallOpen)
	h.getNone(8, api.CallRead)
	h.take(7, api.CallRead, b)
	h.all(d, a, c, e)
	h.ask(wait(15, 7, api.CallRead, 1, ""), api.OK)
	h.get(7, api.CallRead, wait(15, 7, api.CallRead, 1, ""))
	h.all(d, a, wait(15, 7, api.CallRead, 1, ""), c, e)
	h.drop(7, a, wait(15, 7, api.CallRead, 1, ""), c)
	h.all(d, e)
	h.drop(7)
	h.getNone(7, api.CallWrite)
	h.drop(256)
	h.drop(-1)
	h.all(d, e)
	h.take(255, api.CallWrite, e)
	h.drop(255)
	h.drop(2, d)
	h.all()
	h.ask(a, api.OK)
	h.all(a)
}

// Promise 29.1: Ask.

// All kinds from below CallOpen up to beyond CallStop, of each stream: three of them may wait.
func TestAskOfEachKindAndStream(t *testing.T) {
	for stream := range 256 {
		for kind := -3; kind < 11; kind++ {
			h := newHand(t)
			w := some(stream, kind)
			if kind != api.CallWrite && kind != api.CallRead && kind != api.CallClose {
				h.ask(w, api.ErrArg)
				h.getNone(stream, kind)
				h.takeNone(stream, kind)
				h.drop(stream)
				h.all()
				continue
			}
			h.ask(w, api.OK)
			h.get(stream, kind, w)
			h.all(w)
			h.ask(w, api.ErrBusy)
			h.take(stream, kind, w)
			h.all()
			h.ask(w, api.OK)
			h.drop(stream, w)
			h.all()
		}
	}
}

// What may not be is refused, however often, and nothing has changed.
func TestAskOfNoKind(t *testing.T) {
	for _, kind := range noKinds() {
		for _, stream := range edges() {
			b := newBoth(t)
			for range 2 {
				if err := b.ask(some(stream, kind)); err != api.ErrArg {
					t.Fatalf("%s: %d, want ErrArg", b.told(), err)
				}
			}
			b.end()
		}
	}
}

func TestAskOfNoStream(t *testing.T) {
	for _, stream := range noStreams() {
		for _, kind := range kinds() {
			b := newBoth(t)
			for range 2 {
				if err := b.ask(some(stream, kind)); err != api.ErrArg {
					t.Fatalf("%s: %d, want ErrArg", b.told(), err)
				}
			}
			b.end()
		}
	}
}

func TestAskOfNeither(t *testing.T) {
	h := newHand(t)
	for _, stream := range noStreams() {
		for _, kind := range noKinds() {
			h.ask(some(stream, kind), api.ErrArg)
			h.getNone(stream, kind)
		}
	}
	h.all()
}

// ErrArg is asked ahead of ErrBusy: also where all places of that stream, and of that kind, are taken.
func TestAskOfNoneWhereOthersWait(t *testing.T) {
	h := newHand(t)
	var l []api.Wait
	for stream := range 256 {
		for _, kind := range kinds() {
			h.ask(some(stream, kind), api.OK)
			l = append(l, some(stream, kind))
		}
	}
	for _, kind := range noKinds() {
		for _, stream := range append(edges(), noStreams()...) {
			h.ask(wait(9, stream, kind, 1, "z"), api.ErrArg)
		}
	}
	for _, stream := range noStreams() {
		for _, kind := range kinds() {
			h.ask(wait(9, stream, kind, 1, "z"), api.ErrArg)
		}
	}
	h.all(l...)
}

// Few wait: of the same kind, of the same stream, or of both, and one that may not be comes.
func TestAskOfNoneBesideOne(t *testing.T) {
	for _, kind := range append(noKinds(), kinds()...) {
		for _, stream := range append(noStreams(), 0, 2, 255) {
			if isPlace(stream, kind) {
				continue
			}
			h := newHand(t)
			h.ask(some(2, read), api.OK)
			h.ask(some(255, shut), api.OK)
			h.ask(wait(9, stream, kind, 1, "z"), api.ErrArg)
			h.get(2, read, some(2, read))
			h.get(255, shut, some(255, shut))
			h.all(some(2, read), some(255, shut))
		}
	}
}

// The elder one waits still, whatever the younger one is: the same, or another one by its ID, N or Body.
func TestAskOfBusy(t *testing.T) {
	for _, stream := range edges() {
		for _, kind := range kinds() {
			elder := wait(5, stream, kind, 6, "elder")
			h := newHand(t)
			h.ask(elder, api.OK)
			for _, younger := range []api.Wait{elder, wait(6, stream, kind, 6, "elder"), wait(5, stream, kind, 7, "elder"), wait(5, stream, kind, 6, "younger"), wait(0, stream, kind, 0, ""), wait(4, stream, kind, -1, "elde")} {
				h.ask(younger, api.ErrBusy)
				h.get(stream, kind, elder)
				h.all(elder)
			}
			h.take(stream, kind, elder)
			h.all()
		}
	}
}

// The same kind of another stream, and another kind of the same stream: both wait.
func TestAskOfTwoPlaces(t *testing.T) {
	streams := []int{0, 1, 2, 3, 4, 127, 128, 129, 253, 254, 255}
	for _, first := range streams {
		for _, second := range streams {
			for _, one := range kinds() {
				for _, other := range kinds() {
					if first == second && one == other {
						continue
					}
					b := newBoth(t)
					b.ask(some(first, one))
					if err := b.ask(some(second, other)); err != api.OK {
						t.Fatalf("%s: %d, want OK", b.told(), err)
					}
					b.ask(wait(1, first, one, 2, "3"))
					b.ask(wait(1, second, other, 2, "3"))
					b.gets()
					b.take(first, one)
					b.gets()
					b.ask(some(first, one))
					b.drop(second)
					b.end()
				}
			}
		}
	}
}

// A place that was taken or dropped may be asked for anew, again and again.
func TestAskAnew(t *testing.T) {
	for _, stream := range edges() {
		for _, kind := range kinds() {
			b := newBoth(t)
			for round := range 9 {
				w := wait(round, stream, kind, -round, strings.Repeat("y", round))
				if err := b.ask(w); err != api.OK {
					t.Fatalf("%s: %d, want OK", b.told(), err)
				}
				if err := b.ask(some(stream, kind)); err != api.ErrBusy {
					t.Fatalf("%s: %d, want ErrBusy", b.told(), err)
				}
				if round%2 == 0 {
					if got, had := b.take(stream, kind); got != w || !had {
						t.Fatalf("%s: %s, %t, want %s, true", b.told(), short(got), had, short(w))
					}
				} else if l := b.drop(stream); !slices.Equal(l, []api.Wait{w}) {
					t.Fatalf("%s: %s, want %s", b.told(), shorts(l), short(w))
				}
			}
			b.end()
		}
	}
}

// Whatever its ID, N and Body are, a call waits as it was handed in.
func TestAskOfAnyFields(t *testing.T) {
	ints := []int{0, 1, -1, 2, 3, 4, 255, 256, 65536, 1<<31 - 1, 1 << 31, -1 << 31, 1 << 32, 1<<40 + 1, math.MaxInt, math.MinInt}
	bodies := []string{"", "\x00", "a", "\xff\xfe", "hello", "ähre €", strings.Repeat("b", 1024), strings.Repeat("c", 1<<20+1)}
	for i := range 256 {
		bodies = append(bodies, string([]byte{byte(i)}), string([]byte{0, byte(i), 0}))
	}
	for _, id := range ints {
		for _, n := range ints {
			for _, body := range bodies[:7] {
				h := newHand(t)
				w := wait(id, 9, shut, n, body)
				h.ask(w, api.OK)
				h.get(9, shut, w)
				h.all(w)
				// Another one may have all of these, too.
				same := wait(id, 9, read, n, body)
				h.ask(same, api.OK)
				h.all(same, w)
				h.drop(9, same, w)
				h.ask(w, api.OK)
				h.take(9, shut, w)
				h.all()
			}
		}
	}
	for at, body := range bodies {
		for _, kind := range kinds() {
			h := newHand(t)
			w := wait(at, at%256, kind, at, body)
			h.ask(w, api.OK)
			h.get(at%256, kind, w)
			h.all(w)
			h.take(at%256, kind, w)
		}
	}
}

// Many calls of one ID: each place has its own.
func TestAskOfTheSameID(t *testing.T) {
	b := newBoth(t)
	for i := range 30 {
		if err := b.ask(wait(77, i*8, write+i%3, i, "")); err != api.OK {
			t.Fatalf("%s: %d, want OK", b.told(), err)
		}
	}
	b.end()
}

// Promise 29.1: Get and Take.

// Each one is there where it was asked for, and none at any other place, nor where none may be.
func TestGetAtEachPlace(t *testing.T) {
	for _, stream := range []int{0, 1, 2, 3, 4, 254, 255} {
		for _, kind := range kinds() {
			h := newHand(t)
			h.ask(some(stream, kind), api.OK)
			for other := range 256 {
				for of := -3; of < 11; of++ {
					if other == stream && of == kind {
						h.get(stream, kind, some(stream, kind))
					} else {
						h.getNone(other, of)
					}
				}
			}
			h.all(some(stream, kind))
		}
	}
}

func TestTakeAtEachPlace(t *testing.T) {
	for _, stream := range []int{0, 1, 2, 3, 4, 254, 255} {
		for _, kind := range kinds() {
			h := newHand(t)
			h.ask(some(stream, kind), api.OK)
			for other := range 256 {
				for of := -3; of < 11; of++ {
					if other != stream || of != kind {
						h.takeNone(other, of)
					}
				}
			}
			h.all(some(stream, kind))
			h.take(stream, kind, some(stream, kind))
			h.all()
		}
	}
}

// What may not be is nowhere, though all places are taken.
func TestGetAndTakeOfNone(t *testing.T) {
	b := newBoth(t)
	for stream := range 256 {
		for _, kind := range kinds() {
			b.ask(some(stream, kind))
		}
	}
	for _, kind := range append(noKinds(), kinds()...) {
		for _, stream := range append(noStreams(), edges()...) {
			if isPlace(stream, kind) {
				continue
			}
			if w, has := b.got.Get(stream, kind); w != (api.Wait{}) || has {
				t.Fatalf("Get(%d, %d): %s, %t, want none, false", stream, kind, short(w), has)
			}
			if w, had := b.got.Take(stream, kind); w != (api.Wait{}) || had {
				t.Fatalf("Take(%d, %d): %s, %t, want none, false", stream, kind, short(w), had)
			}
		}
	}
	b.state()
}

// However often it is asked for, it waits still; once it is taken, it does not.
func TestGetStaysAndTakeDoesNot(t *testing.T) {
	for _, stream := range edges() {
		for _, kind := range kinds() {
			b := newBoth(t)
			b.ask(some(stream, kind))
			for range 20 {
				if w, has := b.get(stream, kind); w != some(stream, kind) || !has {
					t.Fatalf("%s; Get: %s, %t", b.told(), short(w), has)
				}
			}
			b.state()
			b.take(stream, kind)
			for range 3 {
				if w, has := b.get(stream, kind); w != (api.Wait{}) || has {
					t.Fatalf("%s; Get: %s, %t", b.told(), short(w), has)
				}
				b.take(stream, kind)
			}
			if l := b.drop(stream); len(l) != 0 {
				t.Fatalf("%s: %s, want none", b.told(), shorts(l))
			}
			b.end()
		}
	}
}

// Whichever one of several is taken, the others wait still; in whatever order all are taken.
func TestTakeInEachOrder(t *testing.T) {
	places := [][2]int{{3, write}, {3, read}, {3, shut}, {4, read}, {0, read}}
	for _, asked := range orders(places)[:24] {
		for _, taken := range orders(places) {
			b := newBoth(t)
			for _, at := range asked {
				b.ask(some(at[0], at[1]))
			}
			for i, at := range taken {
				if w, had := b.take(at[0], at[1]); w != some(at[0], at[1]) || !had {
					t.Fatalf("%s: %s, %t", b.told(), short(w), had)
				}
				for _, left := range taken[i+1:] {
					if w, has := b.get(left[0], left[1]); w != some(left[0], left[1]) || !has {
						t.Fatalf("%s; Get(%d, %d): %s, %t", b.told(), left[0], left[1], short(w), has)
					}
				}
			}
			b.state()
		}
	}
}

// Promise 29.1: Drop.

// Each choice of kinds, asked in each order, beside those of other streams: they are dropped by rising kinds.
func TestDrop(t *testing.T) {
	for _, stream := range edges() {
		for _, chosen := range choices(kinds()) {
			for _, order := range orders(chosen) {
				for _, others := range [][]int{nil, {stream ^ 1}, {0, 1, 2, 253, 254, 255}} {
					h, b := newHand(t), newBoth(t)
					for _, other := range others {
						for _, kind := range kinds() {
							if other != stream {
								h.ask(some(other, kind), api.OK)
								b.ask(some(other, kind))
							}
						}
					}
					beside := h.c.All()
					for _, kind := range order {
						h.ask(some(stream, kind), api.OK)
						b.ask(some(stream, kind))
					}
					var want []api.Wait
					for _, kind := range chosen {
						want = append(want, some(stream, kind))
					}
					h.drop(stream, want...)
					h.all(beside...)
					h.drop(stream)
					for _, kind := range kinds() {
						h.takeNone(stream, kind)
					}
					h.all(beside...)
					b.drop(stream)
					b.end()
				}
			}
		}
	}
}

// Of streams that may not be: none, and all wait still.
func TestDropOfNoStream(t *testing.T) {
	b := newBoth(t)
	for range 2 {
		for _, stream := range noStreams() {
			if l := b.drop(stream); len(l) != 0 {
				t.Fatalf("Drop(%d): %s, want none", stream, shorts(l))
			}
		}
		for stream := range 256 {
			for _, kind := range kinds() {
				b.ask(some(stream, kind))
			}
		}
	}
	b.end()
}

// Each stream of all in turn: just its own three are gone.
func TestDropOfEachStream(t *testing.T) {
	d := dice(3)
	var streams []int
	for stream := range 256 {
		streams = append(streams, stream)
	}
	b := newBoth(t)
	for _, stream := range mixed(&d, streams) {
		for _, kind := range mixed(&d, kinds()) {
			b.ask(some(stream, kind))
		}
	}
	for i, stream := range mixed(&d, streams) {
		if l := b.drop(stream); !slices.Equal(l, []api.Wait{some(stream, write), some(stream, read), some(stream, shut)}) {
			t.Fatalf("Drop(%d): %s", stream, shorts(l))
		}
		if n := b.got.Len(); n != 3*(255-i) {
			t.Fatalf("Len behind %d Drops: %d", i+1, n)
		}
	}
	b.end()
}

// Once some were taken, the others of that stream are dropped.
func TestDropBehindTake(t *testing.T) {
	for _, chosen := range choices(kinds()) {
		h := newHand(t)
		var want []api.Wait
		for _, kind := range kinds() {
			h.ask(some(6, kind), api.OK)
		}
		for _, kind := range kinds() {
			if slices.Contains(chosen, kind) {
				h.take(6, kind, some(6, kind))
			} else {
				want = append(want, some(6, kind))
			}
		}
		h.drop(6, want...)
		h.all()
	}
}

// Promise 29.1: All.

// In whatever order they were asked: streams rise first, then kinds. IDs, Ns and Bodies rise in other ways.
func TestAllInEachOrder(t *testing.T) {
	for _, want := range [][]api.Wait{
		{wait(9, 0, write, 5, "e"), wait(8, 0, read, 4, "d"), wait(7, 0, shut, 3, "c"), wait(6, 1, write, 2, "b"), wait(5, 1, shut, 1, "a")},
		{wait(1, 0, shut, 1, "a"), wait(2, 1, read, 2, "b"), wait(3, 2, write, 3, "c"), wait(4, 254, read, 4, "d"), wait(5, 255, write, 5, "e")},
		{wait(0, 2, read, 0, ""), wait(0, 3, read, 0, ""), wait(0, 10, read, 0, ""), wait(0, 100, read, 0, ""), wait(0, 200, read, 0, "")},
		{wait(-1, 127, shut, -1, "z"), wait(5, 128, write, -9, "a"), wait(-7, 129, read, 3, "y"), wait(0, 130, write, 0, "b"), wait(math.MinInt, 255, shut, 1, "x")},
		{wait(3, 5, write, 1, ""), wait(1, 5, read, 2, ""), wait(2, 5, shut, 3, ""), wait(4, 6, read, 1, ""), wait(0, 6, shut, 1, "")},
	} {
		for _, order := range orders(want) {
			h := newHand(t)
			for _, w := range order {
				h.ask(w, api.OK)
			}
			h.all(want...)
			// One is gone, and comes anew.
			h.take(order[2].Call.Stream, order[2].Call.Kind, order[2])
			h.all(slices.DeleteFunc(slices.Clone(want), func(w api.Wait) bool { return w == order[2] })...)
			h.ask(order[2], api.OK)
			h.all(want...)
		}
	}
}

// Each one alone, and then all three kinds of all streams, in whatever order.
func TestAllOfEveryPlace(t *testing.T) {
	var want []api.Wait
	for stream := range 256 {
		for _, kind := range kinds() {
			want = append(want, some(stream, kind))
		}
	}
	for _, w := range want {
		h := newHand(t)
		h.ask(w, api.OK)
		h.all(w)
	}
	down, d := slices.Clone(want), dice(8)
	slices.Reverse(down)
	for _, order := range [][]api.Wait{want, down, mixed(&d, want), mixed(&d, want), mixed(&d, want)} {
		h := newHand(t)
		for _, w := range order {
			h.ask(w, api.OK)
		}
		h.all(want...)
		for _, w := range order {
			h.ask(w, api.ErrBusy)
			h.get(w.Call.Stream, w.Call.Kind, w)
		}
		h.all(want...)
		for i, w := range order {
			h.take(w.Call.Stream, w.Call.Kind, w)
			if n := h.c.Len(); n != 767-i {
				t.Fatalf("Len behind %d Takes: %d", i+1, n)
			}
		}
		h.all()
	}
}

// Promise 29.1: Len.

func TestLen(t *testing.T) {
	c := newCalls(t)
	want := func(call string, n int) {
		t.Helper()
		if got := c.Len(); got != n {
			t.Fatalf("Len behind %s: %d, want %d", call, got, n)
		}
	}
	want("New", 0)
	for i := range 90 {
		stream, kind := i/3, write+i%3
		c.Ask(some(stream, kind))
		want("Ask", i+1)
		c.Ask(some(stream, kind))
		want("Ask that is busy", i+1)
		c.Ask(some(stream, api.CallOpen))
		c.Ask(some(-1, kind))
		want("Ask that may not be", i+1)
		c.Get(stream, kind)
		c.Get(99, kind)
		want("Get", i+1)
		c.Take(99, kind)
		c.Take(stream, api.CallStop)
		want("Take of none", i+1)
		c.Drop(99)
		c.Drop(-1)
		want("Drop of none", i+1)
		c.All()
		want("All", i+1)
	}
	for i := range 30 {
		c.Take(i/3, write+i%3)
		want("Take", 89-i)
		c.Take(i/3, write+i%3)
		want("Take again", 89-i)
	}
	for i := range 15 {
		c.Drop(10 + i)
		want("Drop of three", 57-3*i)
		c.Drop(10 + i)
		want("Drop again", 57-3*i)
	}
	c.Take(25, read)
	want("Take", 14)
	c.Drop(25)
	want("Drop of two", 12)
	c.Take(26, write)
	c.Take(26, shut)
	want("two Takes", 10)
	c.Drop(26)
	want("Drop of one", 9)
}

// Many calls of all kinds.

// one makes one of the kinds of calls.
func (b *both) one(i int) {
	b.t.Helper()
	switch i {
	case 0:
		b.ask(some(0, write))
	case 1:
		b.ask(wait(5, 0, read, 9, "r"))
	case 2:
		b.ask(some(0, shut))
	case 3:
		b.ask(some(1, read))
	case 4:
		b.ask(some(255, shut))
	case 5:
		b.ask(wait(6, 0, read, 8, "s"))
	case 6:
		b.ask(some(0, api.CallAbort))
		b.ask(some(256, read))
	case 7:
		b.take(0, read)
	case 8:
		b.take(0, write)
	case 9:
		b.take(255, shut)
	case 10:
		b.drop(0)
	case 11:
		b.drop(1)
	case 12:
		b.drop(256)
		b.take(1, api.CallOpen)
	}
}

func TestEachRowOfCalls(t *testing.T) {
	const kinds, length = 13, 4
	for row := range kinds * kinds * kinds * kinds {
		b := newBoth(t)
		for range length {
			b.one(row % kinds)
			row /= kinds
		}
		b.end()
	}
}

// mix makes many calls of so many streams from first on, the next one by chance of a fixed seed.
func mix(t *testing.T, first, streams, many int, seed uint64) {
	t.Helper()
	d, b := dice(seed), newBoth(t)
	wrongKinds, wrongStreams := noKinds(), noStreams()
	// So long as asks come rather than takes there are many calls, and then few.
	asks := 8
	for turn := range many {
		stream, kind := first+d.below(streams), write+d.below(3)
		switch what := d.below(16); {
		case what < asks:
			b.ask(wait(turn, stream, kind, d.below(99)-9, strconv.Itoa(turn)))
		case what < 12:
			b.take(stream, kind)
		case what == 12 && d.below(streams/40+1) == 0:
			b.drop(stream)
		case what == 13:
			b.ask(some(stream, wrongKinds[d.below(len(wrongKinds))]))
			b.ask(some(wrongStreams[d.below(len(wrongStreams))], kind))
		case what == 14:
			b.take(stream, wrongKinds[d.below(len(wrongKinds))])
			b.take(wrongStreams[d.below(len(wrongStreams))], kind)
			b.drop(wrongStreams[d.below(len(wrongStreams))])
		case d.below(20) == 0:
			asks = 3 + d.below(9)
		}
		b.get(first+d.below(streams), write+d.below(3))
		if turn%50 == 0 {
			b.gets()
		}
	}
	b.end()
}

func TestMixed(t *testing.T) {
	for seed := range uint64(8) {
		for _, x := range []struct{ first, streams, many int }{{0, 1, 400}, {255, 1, 400}, {0, 2, 600}, {254, 2, 600}, {7, 3, 600}, {100, 10, 800}, {0, 60, 500}} {
			mix(t, x.first, x.streams, x.many, seed+1)
		}
	}
	mix(t, 0, 256, 2000, 5)
}

// R4 and R5: what was answered stays as it was, and hangs on what was done to the same thing alone.

// Whoever got a row may write to it, and neither what waits nor another row sees it.
func TestAnswersAreNewMemory(t *testing.T) {
	b := newBoth(t)
	var all [][]api.Wait
	for round := range 20 {
		for stream := range 6 {
			for _, kind := range kinds() {
				b.ask(wait(round, stream, kind, stream, "x"))
			}
		}
		all = append(all, b.got.All(), b.got.All(), b.drop(round%6), b.drop(3), b.got.All())
		for i, l := range all {
			l = l[:cap(l)]
			for j := range l {
				l[j] = wait(-1-i, 99, -9, -1, "spoiled")
			}
		}
		b.state()
		b.gets()
	}
	for i, l := range all {
		for _, w := range l {
			if w.ID != -1-i {
				t.Fatalf("the row answered at place %d shares memory with the one at place %d", i, -1-w.ID)
			}
		}
	}
	b.end()
}

// What was answered ahead is not changed by calls behind it.
func TestAnswersStay(t *testing.T) {
	b, d := newBoth(t), dice(9)
	var rows, rowCopies [][]api.Wait
	var waits, waitCopies []api.Wait
	for turn := range 1000 {
		b.ask(wait(turn, d.below(5), write+d.below(3), turn, strconv.Itoa(turn)))
		l := b.got.All()
		rows, rowCopies = append(rows, l), append(rowCopies, slices.Clone(l))
		w, _ := b.get(d.below(5), write+d.below(3))
		waits, waitCopies = append(waits, w), append(waitCopies, w)
		w, _ = b.take(d.below(5), write+d.below(3))
		waits, waitCopies = append(waits, w), append(waitCopies, w)
		if turn%5 == 0 {
			l = b.drop(d.below(5))
			rows, rowCopies = append(rows, l), append(rowCopies, slices.Clone(l))
		}
	}
	b.end()
	for i := range rows {
		if !slices.Equal(rows[i], rowCopies[i]) {
			t.Fatalf("what was answered as %s is %s now", shorts(rowCopies[i]), shorts(rows[i]))
		}
	}
	if !slices.Equal(waits, waitCopies) {
		t.Fatal("a call that was answered is another now")
	}
}

// What was handed in, and is changed behind the call by whoever handed it in, waits as it was.
func TestWhatIsHandedInIsNotKept(t *testing.T) {
	h := newHand(t)
	body := []byte("abc")
	w := wait(4, 5, write, 6, string(body))
	h.ask(w, api.OK)
	w.ID, w.Call.Stream, w.Call.Kind, w.Call.N, w.Call.Body = 9, 9, shut, 9, "z"
	body[0] = 'x'
	h.get(5, write, wait(4, 5, write, 6, "abc"))
	h.getNone(9, shut)
	got, _ := h.c.Get(5, write)
	got.ID, got.Call.N, got.Call.Body = 8, 8, "y"
	h.all(wait(4, 5, write, 6, "abc"))
}

func TestTwoShareNothing(t *testing.T) {
	first, second := newBoth(t), newBoth(t)
	d := dice(2)
	for turn := range 400 {
		first.ask(wait(turn, d.below(4), write+d.below(3), 1, "first"))
		second.state()
		second.ask(wait(turn, d.below(4), write+d.below(3), 2, "second"))
		first.state()
		first.take(d.below(4), write+d.below(3))
		second.state()
		if turn%4 == 0 {
			second.drop(d.below(4))
			first.gets()
		}
	}
	first.drop(0)
	second.end()
	first.end()
}

// R5: the same calls are answered alike, however often they are made; a map's order is not to be seen.
func TestTheSameOnceMore(t *testing.T) {
	row := func() string {
		c, d, told := newCalls(t), dice(7), []string(nil)
		for turn := range 600 {
			stream, kind := d.below(30), 1+d.below(5)
			told = append(told, strconv.Itoa(int(c.Ask(wait(turn, stream, kind, turn, "b")))), shorts(c.All()))
			w, had := c.Take(d.below(30), write+d.below(3))
			told = append(told, short(w), strconv.FormatBool(had), strconv.Itoa(c.Len()))
			if turn%20 == 0 {
				told = append(told, shorts(c.Drop(d.below(30))))
			}
		}
		return strings.Join(told, "\n")
	}
	first := row()
	for range 10 {
		if row() != first {
			t.Fatal("the same calls were answered in another way")
		}
	}
}

// All and Drop of the same calls, asked many times of many that were made alike: each time the same.
func TestAllTheSameEachTime(t *testing.T) {
	var want, ofOne []api.Wait
	for i := range 200 {
		c := newCalls(t)
		for j := range 40 {
			c.Ask(some(j*7%20, write+j%3))
		}
		all, dropped := c.All(), c.Drop(7)
		if i == 0 {
			want, ofOne = all, dropped
		}
		if !slices.Equal(all, want) || !slices.Equal(dropped, ofOne) {
			t.Fatalf("asked again: All %s, Drop %s, want %s, %s", shorts(all), shorts(dropped), shorts(want), shorts(ofOne))
		}
	}
}

// Asking changes nothing: Get, All, Len, and an Ask, Take and Drop of none, however often.
func TestAskingChangesNothing(t *testing.T) {
	b := newBoth(t)
	b.ask(some(1, read))
	b.ask(some(2, write))
	for range 50 {
		b.gets()
		b.get(1, write)
		b.ask(wait(0, 1, read, 0, ""))
		b.ask(wait(0, 1, api.CallOpen, 0, ""))
		b.take(1, write)
		b.drop(3)
		b.state()
	}
	if n := b.got.Len(); n != 2 {
		t.Errorf("Len: %d, want 2", n)
	}
	b.end()
}

// heap is how many bytes are held by all.
func heap() int {
	var m runtime.MemStats
	runtime.GC()
	runtime.ReadMemStats(&m)
	return int(m.HeapAlloc)
}

// Calls that were taken, dropped or refused are not kept: the memory of their Bodies is free for others.
func TestGoneCallsAreNotKept(t *testing.T) {
	const size = 1 << 20
	c := newCalls(t)
	before := heap()
	for round := range 4 {
		for stream := range 16 {
			c.Ask(wait(1, stream, write, 0, strings.Repeat("x", size)))
			c.Ask(wait(2, stream, write, 0, strings.Repeat("y", size)))
			c.Ask(wait(2, stream+256, write, 0, strings.Repeat("y", size)))
			c.Ask(wait(2, stream, api.CallAbort, 0, strings.Repeat("y", size)))
		}
		if many := heap() - before; many < 15*size || many > 18*size {
			t.Fatalf("round %d: %d bytes are held of 16 Bodies of %d", round, many, size)
		}
		for stream := range 16 {
			if round%2 == 0 {
				c.Take(stream, write)
			} else {
				c.Drop(stream)
			}
		}
		if many := heap() - before; many > size {
			t.Fatalf("round %d: %d bytes are held, though none waits", round, many)
		}
	}
	runtime.KeepAlive(c)
}

// However many calls came and went, no more is held than of those that may wait at once.
func TestWhatIsHeldDoesNotGrow(t *testing.T) {
	c := newCalls(t)
	before := heap()
	for turn := range 300000 {
		c.Ask(some(turn%256, write+turn%3))
		c.Ask(some(turn, turn))
		c.Take(turn%256, write+turn%3)
		c.Get(turn, turn)
		c.Take(turn, turn)
	}
	if many := heap() - before; many > 1<<19 || c.Len() != 0 {
		t.Errorf("%d bytes are held of %d calls", many, c.Len())
	}
	runtime.KeepAlive(c)
}

// R1: on nil nothing waits, and what may not be is told as ErrNil, too.

func TestNil(t *testing.T) {
	h := hand{t, nil}
	for range 2 {
		for _, stream := range append(edges(), noStreams()...) {
			for _, kind := range append(kinds(), noKinds()...) {
				h.ask(some(stream, kind), api.ErrNil)
				h.getNone(stream, kind)
				h.takeNone(stream, kind)
			}
			h.drop(stream)
		}
		h.ask(api.Wait{}, api.ErrNil)
		h.all()
	}
	b := newBoth(t)
	b.ask(some(1, read))
	h.takeNone(1, read)
	h.all()
	b.end()
}

// The chapter lists six calls on them, and they have no others.
func TestNoOtherCalls(t *testing.T) {
	var got []string
	is := reflect.TypeFor[*calls.Calls]()
	for i := range is.NumMethod() {
		got = append(got, is.Method(i).Name)
	}
	if want := []string{"All", "Ask", "Drop", "Get", "Len", "Take"}; !slices.Equal(got, want) {
		t.Errorf("%v, want %v", got, want)
	}
}
