package calls_test

import (
	"math"
	"slices"
	"strconv"
	"strings"
	"testing"

	"lightship/api"
	"lightship/calls"
)

// The kinds of calls that wait, written out.
const (
	write = 2
	read  = 3
	shut  = 4
)

// plain are the calls that wait by the chapter's words, against which the others are held: one place for each stream and kind.
type plain [256][5]*api.Wait

// isPlace: is there a place of that stream and kind?
func isPlace(stream, kind int) bool {
	if kind != write && kind != read && kind != shut {
		return false
	}
	return stream >= 0 && stream <= 255
}

func (p *plain) ask(w api.Wait) api.Errno {
	if !isPlace(w.Call.Stream, w.Call.Kind) {
		return api.ErrArg
	}
	if p[w.Call.Stream][w.Call.Kind] != nil {
		return api.ErrBusy
	}
	p[w.Call.Stream][w.Call.Kind] = &w
	return api.OK
}

func (p *plain) get(stream, kind int) (api.Wait, bool) {
	if !isPlace(stream, kind) || p[stream][kind] == nil {
		return api.Wait{}, false
	}
	return *p[stream][kind], true
}

func (p *plain) take(stream, kind int) (api.Wait, bool) {
	w, waits := p.get(stream, kind)
	if waits {
		p[stream][kind] = nil
	}
	return w, waits
}

func (p *plain) drop(stream int) []api.Wait {
	var l []api.Wait
	for _, kind := range []int{write, read, shut} {
		if w, waits := p.take(stream, kind); waits {
			l = append(l, w)
		}
	}
	return l
}

func (p *plain) all() []api.Wait {
	var l []api.Wait
	for stream := range p {
		for _, w := range p[stream] {
			if w != nil {
				l = append(l, *w)
			}
		}
	}
	return l
}

// both are calls that wait and the plain ones that they are held against, to which the same is done; and what was done so far.
type both struct {
	t     *testing.T
	got   *calls.Calls
	want  plain
	calls []string
	// asked are places that were named so far, each of them a stream and a kind.
	asked map[[2]int]bool
}

func newCalls(t *testing.T) *calls.Calls {
	t.Helper()
	c := calls.New()
	if c == nil {
		t.Fatal("New: nil")
	}
	return c
}

func newBoth(t *testing.T) *both {
	t.Helper()
	b := &both{t: t, got: newCalls(t), asked: map[[2]int]bool{}}
	b.state()
	return b
}

// told is what was done so far, the last calls alone if there were many.
func (b *both) told() string {
	return strings.Join(b.calls[max(0, len(b.calls)-40):], ", ")
}

// did notes a call, and the place that it named; the first calls of many are forgotten.
func (b *both) did(call string, stream, kind int) {
	if len(b.calls) > 200 {
		b.calls = append(b.calls[:0], b.calls[150:]...)
	}
	b.calls = append(b.calls, call+"("+strconv.Itoa(stream)+", "+strconv.Itoa(kind)+")")
	b.asked[[2]int{stream, kind}] = true
}

// short is a call that waits as it is told.
func short(w api.Wait) string {
	c := w.Call
	body := strconv.Quote(c.Body[:min(len(c.Body), 20)])
	return strconv.Itoa(w.ID) + " (kind " + strconv.Itoa(c.Kind) + ", stream " + strconv.Itoa(c.Stream) + ", N " + strconv.Itoa(c.N) + ", " + body + ", " + strconv.Itoa(len(c.Body)) + " bytes)"
}

// shorts are many of them.
func shorts(l []api.Wait) string {
	s := make([]string, len(l))
	for i, w := range l {
		s[i] = short(w)
	}
	return strconv.Itoa(len(l)) + " [" + strings.Join(s[:min(len(s), 12)], "; ") + "]"
}

// Helper is asked only where a call fails, here and below: it takes more time than the call.
func (b *both) ask(w api.Wait) api.Errno {
	b.did("Ask "+short(w), w.Call.Stream, w.Call.Kind)
	got, want := b.got.Ask(w), b.want.ask(w)
	if got != want {
		b.t.Helper()
		b.t.Fatalf("%s: %d, want %d", b.told(), got, want)
	}
	b.state()
	return got
}

func (b *both) get(stream, kind int) (api.Wait, bool) {
	got, has := b.got.Get(stream, kind)
	want, wantHas := b.want.get(stream, kind)
	if got != want || has != wantHas {
		b.t.Helper()
		b.t.Fatalf("%s; Get(%d, %d): %s, %t, want %s, %t", b.told(), stream, kind, short(got), has, short(want), wantHas)
	}
	return got, has
}

func (b *both) take(stream, kind int) (api.Wait, bool) {
	b.did("Take", stream, kind)
	got, had := b.got.Take(stream, kind)
	want, wantHad := b.want.take(stream, kind)
	if got != want || had != wantHad {
		b.t.Helper()
		b.t.Fatalf("%s: %s, %t, want %s, %t", b.told(), short(got), had, short(want), wantHad)
	}
	b.state()
	return got, had
}

func (b *both) drop(stream int) []api.Wait {
	b.did("Drop", stream, read)
	got, want := b.got.Drop(stream), b.want.drop(stream)
	if !slices.Equal(got, want) {
		b.t.Helper()
		b.t.Fatalf("%s: %s, want %s", b.told(), shorts(got), shorts(want))
	}
	b.state()
	return got
}

// state asks for all that waits, and how many they are.
func (b *both) state() {
	got, want := b.got.All(), b.want.all()
	if !slices.Equal(got, want) {
		b.t.Helper()
		b.t.Fatalf("%s; All: %s, want %s", b.told(), shorts(got), shorts(want))
	}
	if n := b.got.Len(); n != len(want) {
		b.t.Helper()
		b.t.Fatalf("%s; Len: %d, want %d", b.told(), n, len(want))
	}
}

// gets asks for each place that was named, and those beside it.
func (b *both) gets() {
	b.t.Helper()
	for at := range b.asked {
		for _, kind := range []int{write, read, shut, at[1]} {
			b.get(at[0], kind)
		}
	}
	b.state()
}

// end sees what is kept: what each place answers that was named; which of them are busy; and what comes out of them.
func (b *both) end() {
	b.t.Helper()
	b.gets()
	places := make([][2]int, 0, len(b.asked))
	for at := range b.asked {
		places = append(places, at)
	}
	slices.SortFunc(places, func(x, y [2]int) int { return slices.Compare(x[:], y[:]) })
	for i, at := range places {
		b.ask(wait(7000+i, at[0], at[1], i, "end"))
	}
	for i, at := range places {
		if i%3 == 0 {
			b.drop(at[0])
		} else {
			b.take(at[0], at[1])
		}
		b.take(at[0], at[1])
	}
	for _, at := range places {
		b.drop(at[0])
	}
	b.gets()
}

// wait is a call that waits.
func wait(id, stream, kind, n int, body string) api.Wait {
	return api.Wait{ID: id, Call: api.Call{Kind: kind, Stream: stream, N: n, Body: body}}
}

// some is a call of that stream and kind, by whose fields each of them is told from others.
func some(stream, kind int) api.Wait {
	return wait(1000+10*stream+kind, stream, kind, stream-kind, strconv.Itoa(stream)+"/"+strconv.Itoa(kind))
}

// kinds are those that wait.
func kinds() []int { return []int{write, read, shut} }

// edges are streams at both ends of those that may be.
func edges() []int { return []int{0, 1, 254, 255} }

// farInts are the greatest and the least ints, and those whose last 8, 16 or 32 bits are those of a kind, or of a stream.
func farInts() []int {
	l := []int{math.MaxInt, math.MaxInt - 1, math.MinInt, math.MinInt + 1}
	for _, low := range []int{-1, 0, 1, 2, 3, 4, 5, 254, 255, 256} {
		for _, base := range []int{1 << 9, 1 << 16, 1 << 31, 1 << 32, 1 << 33, 1 << 62, -1 << 9, -1 << 16, -1 << 31, -1 << 32, -1 << 33, -1 << 62} {
			l = append(l, base+low)
		}
	}
	return l
}

// noKinds are ints that are no kind of a call that waits.
func noKinds() []int {
	return append(farInts(), -4, -3, -2, -1, 0, 1, 5, 6, 7, 8, 9, 130, 131, 132, 258, 259, 260)
}

// noStreams are ints that are no stream.
func noStreams() []int {
	return append(farInts(), -256, -255, -3, -2, -1, 256, 257, 258, 511, 512)
}

// dice are numbers in no order, another row for each seed.
type dice uint64

// below is a number from 0 to n - 1.
func (d *dice) below(n int) int {
	*d = *d*6364136223846793005 + 1442695040888963407
	return int(uint64(*d)>>33) % n
}

// mixed are the same things in another order.
func mixed[T any](d *dice, l []T) []T {
	l = slices.Clone(l)
	for i := len(l) - 1; i > 0; i-- {
		j := d.below(i + 1)
		l[i], l[j] = l[j], l[i]
	}
	return l
}

// orders are all orders of these things.
func orders[T any](l []T) [][]T {
	if len(l) == 0 {
		return [][]T{nil}
	}
	var all [][]T
	for i := range l {
		for _, rest := range orders(slices.Concat(l[:i], l[i+1:])) {
			all = append(all, append([]T{l[i]}, rest...))
		}
	}
	return all
}

// choices are all choices of these things, each in their order.
func choices[T any](l []T) [][]T {
	if len(l) == 0 {
		return [][]T{nil}
	}
	rest := choices(l[1:])
	all := slices.Clone(rest)
	for _, r := range rest {
		all = append(all, append([]T{l[0]}, r...))
	}
	return all
}
