package timers_test

import (
	"math"
	"slices"
	"strconv"
	"strings"
	"testing"

	"lightship/api"
	"lightship/timers"
)

// most is the latest time that a key may have.
const most = 1 << 40

// key is the key of that stream and block.
func key(stream int, block uint32) api.Key {
	return api.Key{Stream: stream, Block: block}
}

// told is a key as it is told.
func told(k api.Key) string {
	return strconv.Itoa(k.Stream) + "/" + strconv.FormatUint(uint64(k.Block), 10)
}

// toldDue are keys and their times as they are told.
func toldDue(l []api.Due) string {
	s := make([]string, len(l))
	for i, x := range l {
		s[i] = told(x.Key) + " at " + strconv.Itoa(x.At)
	}
	return strconv.Itoa(len(l)) + " [" + strings.Join(s[:min(len(s), 40)], ", ") + "]"
}

// plain is what timers are held against: a list of keys and their times, as they were first set.
type plain []api.Due

// place is where k stands, or -1.
func (p plain) place(k api.Key) int {
	for i, x := range p {
		if x.Key.Stream == k.Stream && x.Key.Block == k.Block {
			return i
		}
	}
	return -1
}

func (p *plain) set(k api.Key, at int) api.Errno {
	if at < 0 || at > most {
		return api.ErrRange
	}
	p.drop(k)
	*p = append(*p, api.Due{Key: k, At: at})
	return api.OK
}

func (p *plain) drop(k api.Key) bool {
	i := p.place(k)
	if i < 0 {
		return false
	}
	*p = append((*p)[:i:i], (*p)[i+1:]...)
	return true
}

func (p plain) at(k api.Key) (int, bool) {
	if i := p.place(k); i >= 0 {
		return p[i].At, true
	}
	return 0, false
}

func (p plain) next() (int, bool) {
	if len(p) == 0 {
		return 0, false
	}
	next := p[0].At
	for _, x := range p {
		if x.At < next {
			next = x.At
		}
	}
	return next, true
}

// ahead: does a come ahead of b?
func ahead(a, b api.Due) bool {
	if a.At != b.At {
		return a.At < b.At
	}
	if a.Key.Stream != b.Key.Stream {
		return a.Key.Stream < b.Key.Stream
	}
	return a.Key.Block < b.Key.Block
}

// due takes out whoever is due, each into its place among those that were taken out ahead.
func (p *plain) due(now int) []api.Due {
	var stay, due []api.Due
	for _, x := range *p {
		if x.At > now {
			stay = append(stay, x)
			continue
		}
		i := len(due)
		for i > 0 && ahead(x, due[i-1]) {
			i--
		}
		due = slices.Insert(due, i, x)
	}
	*p = stay
	return due
}

// both are timers and the list that they are held against, to which the same is done; and what was done so far.
type both struct {
	t     *testing.T
	got   *timers.Timers
	want  plain
	calls []string
	// asked are keys that were set or dropped ahead: look asks for each of them.
	asked map[api.Key]bool
}

func newBoth(t *testing.T) *both {
	t.Helper()
	b := &both{t: t, got: timers.New(), asked: map[api.Key]bool{}}
	if b.got == nil {
		t.Fatal("New: nil")
	}
	return b
}

// note keeps what is done now.
func (b *both) note(call string, k api.Key) {
	b.calls = append(b.calls, call+" "+told(k))
	b.asked[k] = true
}

// fail ends the test, and tells what was done, the last calls alone if there were many.
func (b *both) fail(what string) {
	b.t.Helper()
	b.t.Fatalf("%s: %s", strings.Join(b.calls[max(0, len(b.calls)-40):], "; "), what)
}

func (b *both) set(k api.Key, at int) {
	b.t.Helper()
	b.note("Set at "+strconv.Itoa(at), k)
	if got, want := b.got.Set(k, at), b.want.set(k, at); got != want {
		b.fail("answered " + strconv.Itoa(int(got)) + ", want " + strconv.Itoa(int(want)))
	}
}

func (b *both) drop(k api.Key) {
	b.t.Helper()
	b.note("Drop", k)
	if got, want := b.got.Drop(k), b.want.drop(k); got != want {
		b.fail("answered " + strconv.FormatBool(got) + ", want " + strconv.FormatBool(want))
	}
}

func (b *both) due(now int) []api.Due {
	b.t.Helper()
	b.calls = append(b.calls, "Due "+strconv.Itoa(now))
	got, want := b.got.Due(now), b.want.due(now)
	if !slices.Equal(got, want) {
		b.fail("answered " + toldDue(got) + ", want " + toldDue(want))
	}
	return got
}

// time is a time, and whether there is one, as it is told.
func time(at int, has bool) string {
	return strconv.Itoa(at) + ", " + strconv.FormatBool(has)
}

func (b *both) at(k api.Key) {
	b.t.Helper()
	got, has := b.got.At(k)
	if want, wantHas := b.want.at(k); got != want || has != wantHas {
		b.fail("At " + told(k) + ": " + time(got, has) + ", want " + time(want, wantHas))
	}
}

func (b *both) next() {
	b.t.Helper()
	got, has := b.got.Next()
	if want, wantHas := b.want.next(); got != want || has != wantHas {
		b.fail("Next: " + time(got, has) + ", want " + time(want, wantHas))
	}
}

func (b *both) length() {
	b.t.Helper()
	if got, want := b.got.Len(), len(b.want); got != want {
		b.fail("Len: " + strconv.Itoa(got) + ", want " + strconv.Itoa(want))
	}
}

// look asks for everything, in two orders, each of which would see whether asking changes something.
func (b *both) look() {
	b.t.Helper()
	b.length()
	b.next()
	for k := range b.asked {
		b.at(k)
	}
	b.next()
	b.length()
}

// end looks, asks for what is due up to each time that there is, and then for all that is due, if anything is.
func (b *both) end() {
	b.t.Helper()
	b.look()
	for range min(len(b.want), 100) {
		at, _ := b.want.next()
		b.due(at - 1)
		b.next()
		b.due(at)
		b.next()
		b.length()
	}
	b.due(math.MaxInt)
	b.look()
	b.due(math.MaxInt)
	b.look()
}

// Whoever looks may set right what a call finds wrong: twice does something to new timers, nobody looks the first time.
func twice(t *testing.T, do func(b *both, look func())) {
	t.Helper()
	for _, looks := range []bool{false, true} {
		b := newBoth(t)
		do(b, func() {
			t.Helper()
			if looks {
				b.look()
			}
		})
		b.end()
	}
}

// farNumbers are the greatest and the least ints, and those whose last 8, 16, 32 or 40 bits are small.
func farNumbers() []int {
	l := []int{math.MaxInt, math.MaxInt - 1, math.MinInt, math.MinInt + 1}
	for _, low := range []int{-1, 0, 1, 2, 5} {
		for _, base := range []int{-1 << 62, -1 << 41, -most, -1 << 32, -1 << 31, -1 << 16, -256, 1 << 41, 1 << 42, 1 << 62} {
			l = append(l, base+low)
		}
	}
	return l
}

// noTimes are numbers that no key may have for a time.
func noTimes() []int {
	return append(farNumbers(), -1, -2, -5, -most+5, most+1, most+2, most+5, most+256, 1<<41-1, 2*most+1)
}

// edges are the times at the ends of what may be, and others with small last bits.
func edges() []int {
	return []int{0, 1, 2, 5, 255, 256, 65535, 65536, 1<<31 - 1, 1 << 31, 1<<31 + 1, 1<<32 - 1, 1 << 32, 1<<32 + 1, 1 << 33, 1 << 39, most - 2, most - 1, most}
}

// farKeys are keys of Streams and Blocks of 0, of the least and the greatest numbers, next to these, and of some with the same last bits.
func farKeys() []api.Key {
	var l []api.Key
	for _, stream := range []int{math.MinInt, math.MinInt + 1, -1 << 32, -256, -2, -1, 0, 1, 2, 255, 256, 257, 65536, 1 << 31, 1<<32 - 1, 1 << 32, 1<<32 + 1, math.MaxInt - 1, math.MaxInt} {
		for _, block := range []uint32{0, 1, 2, 255, 256, 257, 65535, 65536, 1<<31 - 1, 1 << 31, 1<<31 + 1, math.MaxUint32 - 1, math.MaxUint32} {
			l = append(l, key(stream, block))
		}
	}
	return l
}

// dice are numbers in no order, another row for each seed.
type dice uint64

// below is a number from 0 to n - 1.
func (d *dice) below(n int) int {
	*d = *d*6364136223846793005 + 1442695040888963407
	return int(uint64(*d)>>33) % n
}

// mixed are the same things in another order.
func mixed[T any](d *dice, l []T) []T {
	l = slices.Clone(l)
	for i := len(l) - 1; i > 0; i-- {
		j := d.below(i + 1)
		l[i], l[j] = l[j], l[i]
	}
	return l
}

// orders are all orders of these things.
func orders[T any](l []T) [][]T {
	if len(l) == 0 {
		return [][]T{nil}
	}
	var all [][]T
	for i := range l {
		for _, rest := range orders(slices.Concat(l[:i], l[i+1:])) {
			all = append(all, append([]T{l[i]}, rest...))
		}
	}
	return all
}

// Promise 13.1: New.

func TestNew(t *testing.T) {
	b := newBoth(t)
	if n := b.got.Len(); n != 0 {
		t.Errorf("Len: %d, want 0", n)
	}
	if at, has := b.got.Next(); at != 0 || has {
		t.Errorf("Next: %d, %t, want 0, false", at, has)
	}
	for _, k := range farKeys() {
		if at, has := b.got.At(k); at != 0 || has {
			t.Errorf("At(%s): %d, %t, want 0, false", told(k), at, has)
		}
		if b.got.Drop(k) {
			t.Errorf("Drop(%s): true of no timers", told(k))
		}
	}
	for _, now := range append(noTimes(), edges()...) {
		if l := b.got.Due(now); len(l) != 0 {
			t.Errorf("Due(%d): %s of no timers", now, toldDue(l))
		}
	}
	b.end()
}

// Promise 13.1: the chapter's example, and some answers written out.

func TestExample(t *testing.T) {
	b := timers.New()
	if err := b.Set(key(1, 2), 5); err != api.OK {
		t.Errorf("Set at 5: %d, want OK", err)
	}
	if l := b.Due(4); len(l) != 0 {
		t.Errorf("Due(4): %s, want none", toldDue(l))
	}
	if l := b.Due(5); len(l) != 1 || l[0] != (api.Due{Key: api.Key{Stream: 1, Block: 2}, At: 5}) {
		t.Errorf("Due(5): %s, want 1/2 at 5", toldDue(l))
	}
	if l := b.Due(5); len(l) != 0 {
		t.Errorf("Due(5) again: %s, want none", toldDue(l))
	}
}

func TestByHand(t *testing.T) {
	b := timers.New()
	wantSet := func(k api.Key, at int, want api.Errno) {
		t.Helper()
		if err := b.Set(k, at); err != want {
			t.Errorf("Set(%s, %d): %d, want %d", told(k), at, err, want)
		}
	}
	wantDrop := func(k api.Key, want bool) {
		t.Helper()
		if had := b.Drop(k); had != want {
			t.Errorf("Drop(%s): %t, want %t", told(k), had, want)
		}
	}
	wantAt := func(k api.Key, want int, wantHas bool) {
		t.Helper()
		if at, has := b.At(k); at != want || has != wantHas {
			t.Errorf("At(%s): %d, %t, want %d, %t", told(k), at, has, want, wantHas)
		}
	}
	wantNext := func(want int, wantHas bool, many int) {
		t.Helper()
		if at, has := b.Next(); at != want || has != wantHas {
			t.Errorf("Next: %d, %t, want %d, %t", at, has, want, wantHas)
		}
		if n := b.Len(); n != many {
			t.Errorf("Len: %d, want %d", n, many)
		}
	}
	wantDue := func(now int, want ...api.Due) {
		t.Helper()
		if l := b.Due(now); !slices.Equal(l, want) {
			t.Errorf("Due(%d): %s, want %s", now, toldDue(l), toldDue(want))
		}
	}
	wantNext(0, false, 0)
	wantSet(key(3, 1), 7, 0)
	wantNext(7, true, 1)
	wantSet(key(2, 9), 7, 0)
	wantSet(key(2, 10), 7, 0)
	wantSet(key(9, 0), 0, 0)
	wantNext(0, true, 4)
	wantSet(key(3, 1), 3, 0)
	wantAt(key(3, 1), 3, true)
	wantAt(key(1, 3), 0, false)
	wantAt(key(9, 0), 0, true)
	wantNext(0, true, 4)
	wantSet(key(9, 0), -1, 2)
	wantSet(key(9, 0), 1099511627777, 2)
	wantSet(key(9, 1), 1099511627777, 2)
	wantNext(0, true, 4)
	wantDrop(key(9, 0), true)
	wantDrop(key(9, 0), false)
	wantDrop(key(9, 1), false)
	wantNext(3, true, 3)
	wantSet(key(0, 4), 1099511627776, 0)
	wantDue(-1)
	wantDue(2)
	wantNext(3, true, 4)
	wantDue(7, api.Due{Key: key(3, 1), At: 3}, api.Due{Key: key(2, 9), At: 7}, api.Due{Key: key(2, 10), At: 7})
	wantDue(7)
	wantDrop(key(2, 9), false)
	wantAt(key(2, 10), 0, false)
	wantNext(1099511627776, true, 1)
	wantDue(1099511627775)
	wantDue(1099511627776, api.Due{Key: key(0, 4), At: 1099511627776})
	wantNext(0, false, 0)
}

// Promise 13.1: Set, of times that may be and of those that may not.

func TestSet(t *testing.T) {
	for _, at := range edges() {
		for _, k := range []api.Key{{}, key(3, 7), key(-1, math.MaxUint32)} {
			twice(t, func(b *both, look func()) {
				b.set(k, at)
				look()
				if got, has := b.got.At(k); got != at || !has {
					t.Errorf("Set(%s, %d), At: %d, %t", told(k), at, got, has)
				}
			})
			twice(t, func(b *both, look func()) {
				b.set(k, at)
				b.due(at - 1)
				look()
				b.due(at)
				look()
				b.set(k, at)
			})
		}
	}
}

func TestSetOfNoTime(t *testing.T) {
	for _, at := range noTimes() {
		if err := timers.New().Set(key(1, 1), at); err != api.ErrRange {
			t.Errorf("Set at %d: %d, want ErrRange", at, err)
		}
		for _, k := range []api.Key{{}, key(3, 7)} {
			twice(t, func(b *both, look func()) {
				b.set(k, at)
				look()
				b.drop(k)
				b.set(k, at)
			})
			twice(t, func(b *both, look func()) {
				b.set(k, at)
				look()
				b.set(k, 4)
				look()
				b.set(k, at)
				look()
				b.set(key(4, 7), at)
				look()
				b.drop(key(4, 7))
				b.drop(k)
			})
		}
	}
}

// A Set that is refused leaves the key the time that it had, or none, and every other key its own.
func TestSetRefusedChangesNothing(t *testing.T) {
	for _, had := range edges() {
		for _, at := range []int{-1, most + 1, math.MinInt, math.MaxInt, had - most - 1, had + most + 1} {
			twice(t, func(b *both, look func()) {
				b.set(key(1, 1), had)
				b.set(key(1, 2), 9)
				b.set(key(1, 1), at)
				look()
				b.set(key(2, 1), at)
			})
			twice(t, func(b *both, look func()) {
				b.set(key(1, 1), had)
				b.set(key(1, 1), at)
				look()
				b.due(had)
				b.set(key(1, 1), at)
			})
		}
	}
}

// A key that is set twice has the time that it was set to last, and is counted once.
func TestSetTwice(t *testing.T) {
	for _, first := range edges() {
		for _, second := range edges() {
			twice(t, func(b *both, look func()) {
				b.set(key(5, 6), first)
				look()
				b.set(key(5, 6), second)
				look()
				if n := b.got.Len(); n != 1 {
					t.Errorf("set at %d and %d: %d keys, want 1", first, second, n)
				}
			})
			for _, now := range []int{first, second, min(first, second), max(first, second)} {
				twice(t, func(b *both, look func()) {
					b.set(key(5, 6), first)
					b.set(key(5, 7), (first+second)/2)
					b.set(key(5, 6), second)
					b.due(now)
					look()
				})
			}
			twice(t, func(b *both, look func()) {
				b.set(key(5, 6), first)
				b.set(key(5, 6), second)
				b.drop(key(5, 6))
				look()
				b.drop(key(5, 6))
			})
		}
	}
}

// Many times, of which the last one holds, however they rise and fall.
func TestSetAgainAndAgain(t *testing.T) {
	for _, times := range orders([]int{0, 3, 3, 8, most}) {
		twice(t, func(b *both, look func()) {
			b.set(key(0, 1), 4)
			for _, at := range times {
				b.set(key(0, 0), at)
				look()
			}
			b.set(key(0, 0), -1)
		})
	}
}

// Promise 13.1: keys are apart, if their Streams or their Blocks are.

func TestKeysApart(t *testing.T) {
	far := farKeys()
	for i, k := range far {
		// The keys next to it differ in Block alone, those further away in Stream alone, or in both.
		for _, j := range []int{i + 1, i + 2, i + 12, i + 13, i + 14, i + 26, i + 39, i + 100} {
			other := far[j%len(far)]
			twice(t, func(b *both, look func()) {
				b.set(k, 5)
				b.at(other)
				b.drop(other)
				look()
				b.set(other, 9)
				look()
				b.set(k, 12)
				look()
				b.drop(other)
				look()
				b.set(other, 12)
			})
		}
	}
	// Stream and Block may be each other's.
	twice(t, func(b *both, look func()) {
		b.set(key(1, 2), 3)
		b.at(key(2, 1))
		b.set(key(2, 1), 4)
		look()
		b.drop(key(1, 2))
	})
}

// All these keys have a time at once, each another one.
func TestFarKeys(t *testing.T) {
	d := dice(5)
	for round := range 6 {
		twice(t, func(b *both, look func()) {
			for i, k := range mixed(&d, farKeys()) {
				b.set(k, 1000+i)
			}
			look()
			for i, k := range mixed(&d, farKeys()) {
				switch i % 4 {
				case 0:
					b.drop(k)
					b.drop(k)
				case 1:
					b.set(k, 900+i)
				case 2:
					b.set(k, 1500-i)
				}
			}
			look()
			b.due(1000 + 20*round)
			look()
		})
	}
}

// Promise 13.1: Drop and At.

func TestDrop(t *testing.T) {
	for _, at := range edges() {
		for _, k := range []api.Key{{}, key(3, 7), key(math.MinInt, math.MaxUint32)} {
			other := key(k.Stream, k.Block+1)
			twice(t, func(b *both, look func()) {
				b.drop(k)
				look()
				b.set(k, at)
				look()
				b.drop(other)
				look()
				b.drop(k)
				look()
				b.drop(k)
				look()
				b.set(k, at)
				b.due(at)
				b.drop(k)
				look()
				b.set(other, at)
				b.drop(k)
				look()
				b.set(k, most-at)
				b.drop(k)
				b.drop(other)
			})
			// Who was dropped is not due.
			twice(t, func(b *both, look func()) {
				b.set(k, at)
				b.set(other, at)
				b.drop(k)
				b.due(at)
				look()
			})
		}
	}
}

// Of each key that had a time, and was dropped or was due ahead, At tells that it has none.
func TestAt(t *testing.T) {
	b := newBoth(t)
	wantAt := func(what string, k api.Key, want int, wantHas bool) {
		t.Helper()
		if at, has := b.got.At(k); at != want || has != wantHas {
			t.Errorf("At of a key %s: %d, %t, want %d, %t", what, at, has, want, wantHas)
		}
	}
	b.set(key(1, 1), 10)
	b.set(key(1, 2), 0)
	b.set(key(1, 3), most)
	b.set(key(1, 4), 10)
	b.set(key(1, 5), 30)
	b.set(key(1, 5), most+1)
	b.set(key(1, 6), -1)
	b.set(key(1, 7), 40)
	b.set(key(1, 7), 50)
	b.drop(key(1, 4))
	wantAt("that has a time", key(1, 1), 10, true)
	wantAt("that has the time 0", key(1, 2), 0, true)
	wantAt("that has the latest time", key(1, 3), most, true)
	wantAt("that was dropped", key(1, 4), 0, false)
	wantAt("whose second time was refused", key(1, 5), 30, true)
	wantAt("whose time was refused", key(1, 6), 0, false)
	wantAt("that was set twice", key(1, 7), 50, true)
	wantAt("that never had one", key(1, 8), 0, false)
	b.due(10)
	wantAt("that was due", key(1, 1), 0, false)
	wantAt("that was due at 0", key(1, 2), 0, false)
	b.set(key(1, 1), 11)
	b.set(key(1, 4), 12)
	wantAt("that was due, and set anew", key(1, 1), 11, true)
	wantAt("that was dropped, and set anew", key(1, 4), 12, true)
	b.end()
}

// Promise 13.1: Next.

func TestNextOfOne(t *testing.T) {
	for _, at := range edges() {
		b := newBoth(t)
		b.set(key(1, 1), at)
		for range 3 {
			if got, has := b.got.Next(); got != at || !has {
				t.Errorf("Next of one at %d: %d, %t", at, got, has)
			}
		}
		b.end()
	}
}

// Wherever the earliest one was set, and whoever else has its time; and once it is gone, or set to a later time, or to an earlier one.
func TestNextOfMany(t *testing.T) {
	for _, l := range [][]int{{4, 9}, {3, 5, 8}, {0, 5, most}, {2, 2, 7}, {0, 0, 0, 1}, {6, 7, 8, 9}, {most - 1, most, most}, {1, 2, 3, 3, 4}} {
		for _, times := range orders(l) {
			twice(t, func(b *both, look func()) {
				for i, at := range times {
					b.set(key(i%2, uint32(i)), at)
					look()
				}
				b.next()
				for range len(times) {
					first := b.firstKey()
					b.drop(first)
					b.next()
				}
			})
			for _, later := range []int{5, 8, most} {
				twice(t, func(b *both, look func()) {
					for i, at := range times {
						b.set(key(i%2, uint32(i)), at)
					}
					for range len(times) {
						b.set(b.firstKey(), later)
						b.next()
						look()
					}
					b.set(key(0, 0), 1)
					b.next()
					b.set(key(0, 0), 2)
					b.next()
				})
			}
		}
	}
}

// firstKey is the key that has the earliest time, by the list.
func (b *both) firstKey() api.Key {
	first := b.want[0]
	for _, x := range b.want {
		if ahead(x, first) {
			first = x
		}
	}
	return first.Key
}

// Promise 13.1: Due, at times below, at, between and above those that there are.

func TestDue(t *testing.T) {
	for _, times := range [][]int{{5}, {0}, {most}, {0, most}, {5, 5}, {3, 6}, {3, 4, 9}, {7, 7, 9, 9}, {0, 1, 2, 3, 4}, {most - 2, most - 1, most, most}} {
		nows := append(farNumbers(), -2, -1, most+1, most+2)
		for _, at := range times {
			nows = append(nows, at-2, at-1, at, at+1, at+2)
		}
		for _, now := range nows {
			twice(t, func(b *both, look func()) {
				for i, at := range times {
					b.set(key(i, uint32(9-i)), at)
				}
				look()
				b.due(now)
				look()
				b.due(now)
				look()
				// Whoever was due may have a time anew.
				for i, at := range times {
					b.set(key(i, uint32(9-i)), most-at)
				}
				b.due(now)
				look()
			})
		}
	}
}

// What is due is so at its time, not a step ahead, and each key once: steps rise by one.
func TestDueStepByStep(t *testing.T) {
	for _, base := range []int{0, 1, 250, 65530, 1<<31 - 5, 1<<32 - 5, most - 10} {
		b, count := newBoth(t), 0
		for i := range 30 {
			b.set(key(i%3, uint32(i)), base+i*7%11)
		}
		for now := base - 2; now < base+13; now++ {
			l := b.due(now)
			for _, x := range l {
				if x.At != now {
					t.Errorf("%s at %d: due at %d", told(x.Key), x.At, now)
				}
			}
			count += len(l)
			b.look()
		}
		if count != 30 {
			t.Errorf("from %d on: %d keys were due, want 30", base, count)
		}
		b.end()
	}
}

// Time may go back: what is not due stays, and comes later.
func TestDueAtFallingTimes(t *testing.T) {
	twice(t, func(b *both, look func()) {
		for i := range 40 {
			b.set(key(0, uint32(i)), 10*i)
		}
		for _, now := range []int{50, 40, 0, -1, 51, 200, 199, math.MinInt, 201, 210, 5, 380, 389} {
			b.due(now)
			look()
			b.set(key(1, 0), now)
			b.set(key(1, 1), now+1)
			look()
		}
	})
}

// Promise 13.1: the order of what is due.

// In whatever order these keys are set, they are due in one order: times come first, then Streams, then Blocks.
func TestOrderHoweverTheyWereSet(t *testing.T) {
	for _, want := range [][]api.Due{
		{{Key: key(1, 1), At: 1}, {Key: key(1, 1<<16), At: 1}, {Key: key(2, 0), At: 1}, {Key: key(0, 0), At: 2}, {Key: key(0, 1), At: 2}},
		{{Key: key(9, 9), At: 0}, {Key: key(8, 8), At: 1}, {Key: key(7, 7), At: 2}, {Key: key(6, 6), At: 3}, {Key: key(5, 5), At: 4}},
		{{Key: key(0, 9), At: 3}, {Key: key(1, 8), At: 3}, {Key: key(2, 7), At: 3}, {Key: key(3, 6), At: 3}, {Key: key(4, 5), At: 3}},
		{{Key: key(4, 0), At: 3}, {Key: key(4, 1), At: 3}, {Key: key(4, 2), At: 3}, {Key: key(4, 10), At: 3}, {Key: key(4, 100), At: 3}},
		{{Key: key(2, 1), At: 9}, {Key: key(10, 1), At: 9}, {Key: key(1, 1), At: 10}, {Key: key(9, 1), At: 10}, {Key: key(3, 1), At: 100}},
		// Blocks rise as numbers do, and Streams may be below 0.
		{{Key: key(0, 0), At: 5}, {Key: key(0, 1), At: 5}, {Key: key(0, 1<<31-1), At: 5}, {Key: key(0, 1<<31), At: 5}, {Key: key(0, 1<<32-1), At: 5}},
		{{Key: key(math.MinInt, 1), At: 5}, {Key: key(-1, 1), At: 5}, {Key: key(0, 1), At: 5}, {Key: key(1, 1), At: 5}, {Key: key(math.MaxInt, 1), At: 5}},
		{{Key: key(1<<32, 0), At: 1 << 31}, {Key: key(0, 0), At: 1 << 32}, {Key: key(0, 0xffffffff), At: 1 << 32}, {Key: key(5, 1), At: most - 1}, {Key: key(0, 1), At: most}},
	} {
		for _, l := range orders(want) {
			for _, now := range []int{want[4].At, most, math.MaxInt} {
				b := timers.New()
				for _, x := range l {
					b.Set(x.Key, x.At)
				}
				if got := b.Due(now); !slices.Equal(got, want) {
					t.Fatalf("set in the order %s, Due(%d): %s, want %s", toldDue(l), now, toldDue(got), toldDue(want))
				}
			}
		}
	}
}

// Many keys of few times, or of one: many of the same time and Stream.
func TestOrderOfManyKeys(t *testing.T) {
	d := dice(11)
	for _, x := range []struct{ times, streams, blocks int }{{1, 1, 1000}, {1, 1000, 1}, {1000, 1, 1}, {1, 30, 30}, {2, 2, 200}, {30, 1, 30}, {30, 30, 1}, {9, 9, 9}} {
		var want, l []api.Due
		for at := range x.times {
			for stream := range x.streams {
				for block := range x.blocks {
					// A key has one time: those of another time have Blocks, or Streams, of their own.
					k := key(stream, uint32(block+x.blocks*(x.times-at)))
					if x.blocks == 1 {
						k = key(stream+x.streams*(x.times-at), 0)
					}
					want = append(want, api.Due{Key: k, At: 7 + at})
				}
			}
		}
		down := slices.Clone(want)
		slices.Reverse(down)
		for _, l = range [][]api.Due{want, down, mixed(&d, want), mixed(&d, want), mixed(&d, want)} {
			b := timers.New()
			for _, x := range l {
				b.Set(x.Key, x.At)
			}
			if got := b.Due(7 + x.times); !slices.Equal(got, want) {
				t.Errorf("%d times, %d Streams, %d Blocks: %s, want %s", x.times, x.streams, x.blocks, toldDue(got), toldDue(want))
			}
		}
	}
}

// Far Streams and Blocks, all at the same time, and at two.
func TestOrderOfFarKeys(t *testing.T) {
	d := dice(3)
	want := make([]api.Due, 0, len(farKeys()))
	// They are told in their order.
	for _, k := range farKeys() {
		want = append(want, api.Due{Key: k, At: 1})
	}
	for range 10 {
		b := timers.New()
		for _, x := range mixed(&d, want) {
			b.Set(x.Key, x.At)
		}
		if got := b.Due(1); !slices.Equal(got, want) {
			t.Fatalf("%s, want %s", toldDue(got), toldDue(want))
		}
		twice(t, func(b *both, look func()) {
			for i, x := range mixed(&d, want) {
				b.set(x.Key, most-i%2)
			}
			b.due(most - 1)
			look()
		})
	}
}

// The same keys in the same order are due in the same order each time.
func TestOrderAgain(t *testing.T) {
	var first []api.Due
	for i := range 200 {
		b, d := timers.New(), dice(1)
		for range 30 {
			b.Set(key(d.below(4), uint32(d.below(9))), d.below(3))
		}
		l := b.Due(2)
		if i == 0 {
			first = l
		}
		if !slices.Equal(l, first) {
			t.Fatalf("asked again: %s, want %s", toldDue(l), toldDue(first))
		}
	}
}

// Promise 13.1: Len.

func TestLen(t *testing.T) {
	b := timers.New()
	want := func(call string, n int) {
		t.Helper()
		if got := b.Len(); got != n {
			t.Fatalf("Len behind %s: %d, want %d", call, got, n)
		}
	}
	want("New", 0)
	for i := range 100 {
		b.Set(key(i%3, uint32(i)), i)
		want("Set", i+1)
		b.Set(key(i%3, uint32(i)), i+1)
		want("Set of the same key", i+1)
		b.Set(key(7, uint32(i)), -1)
		want("Set that was refused", i+1)
		b.Drop(key(7, uint32(i)))
		want("Drop of none", i+1)
		b.At(key(7, uint32(i)))
		b.At(key(i%3, uint32(i)))
		want("At", i+1)
		b.Next()
		want("Next", i+1)
		b.Due(0)
		b.Due(-1)
		want("Due of none", i+1)
	}
	for i := range 50 {
		b.Drop(key(i%3, uint32(i)))
		want("Drop", 99-i)
		b.Drop(key(i%3, uint32(i)))
		want("Drop again", 99-i)
	}
	b.Due(60)
	want("Due of ten", 40)
	b.Due(60)
	want("Due again", 40)
	b.Due(most)
	want("Due of all", 0)
	b.Set(key(0, 0), 0)
	want("Set", 1)
}

// Promise 13.1: all of it, against the list.

// step is one of the calls that each row has: Set, Drop and Due of few keys and times.
func (b *both) step(i int) {
	b.t.Helper()
	keys := []api.Key{key(0, 0), key(0, 1), key(1, 0)}
	switch k := keys[i%3]; {
	case i < 9:
		b.set(k, []int{1, 2, most}[i/3])
	case i < 12:
		b.drop(k)
	case i < 14:
		b.due(i - 11)
	default:
		b.set(k, -1)
	}
}

// All rows of so many calls, once with nobody looking till the end.
func TestEachRowOfCalls(t *testing.T) {
	const kinds, length = 15, 4
	for row := range kinds * kinds * kinds * kinds {
		for _, looks := range []bool{false, true} {
			b := newBoth(t)
			for i, rest := 0, row; i < length; i, rest = i+1, rest/kinds {
				b.step(rest % kinds)
				if looks {
					b.look()
				}
			}
			b.end()
		}
	}
}

// mix makes many calls of so many streams, blocks and times from base on, the next one by chance of a fixed seed.
func mix(t *testing.T, streams, blocks, times, base int, seed uint64) {
	t.Helper()
	b, d := newBoth(t), dice(seed)
	some := func() api.Key { return key(d.below(streams), uint32(d.below(blocks))-uint32(blocks/2)) }
	// So long as sets come rather than drops there are many keys, and then few.
	sets := 6
	for range 1500 {
		at := base + d.below(times)
		switch turn := d.below(12); {
		case turn < sets:
			b.set(some(), at)
		case turn < 10:
			b.drop(some())
		case turn < 11 && d.below(4) == 0:
			b.due(at)
		case d.below(10) == 0:
			b.set(some(), noTimes()[d.below(len(noTimes()))])
		case d.below(10) == 0:
			b.due(math.MaxInt)
		default:
			sets = 3 + d.below(7)
		}
		b.next()
		b.length()
		b.at(some())
		if d.below(9) == 0 {
			b.look()
		}
	}
	b.end()
}

func TestMixed(t *testing.T) {
	for seed := range uint64(6) {
		for _, x := range []struct{ streams, blocks, times, base int }{{1, 1, 5, 0}, {1, 9, 3, 0}, {9, 1, 3, 1}, {3, 5, 1, most}, {4, 4, 50, 100}, {256, 64, 9, 5}, {1, 1000, 2, 0}, {20, 20, 1 << 30, most - 1<<30}, {16, 16, 10, most - 9}} {
			mix(t, x.streams, x.blocks, x.times, x.base, seed+1)
		}
	}
}

// As many keys as an endpoint may have blocks on their way.
func TestManyKeys(t *testing.T) {
	b := timers.New()
	const streams, blocks = 256, 64
	for i := range streams * blocks {
		// 4099 is no divisor: keys come in no order.
		k := i * 4099 % (streams * blocks)
		b.Set(key(k/blocks, uint32(k%blocks)), k%1000)
	}
	if n := b.Len(); n != streams*blocks {
		t.Fatalf("Len: %d, want %d", n, streams*blocks)
	}
	last, count := api.Due{At: -1}, 0
	for now := 0; now < 1010; now += 10 {
		for _, x := range b.Due(now) {
			if !ahead(last, x) || x.At > now || x.At != (x.Key.Stream*blocks+int(x.Key.Block))%1000 {
				t.Fatalf("Due(%d): %s at %d behind %s at %d", now, told(x.Key), x.At, told(last.Key), last.At)
			}
			last = x
			count++
		}
		if at, has := b.Next(); has && at != now+1 || has == (now >= 1000) {
			t.Fatalf("Due(%d), Next: %d, %t", now, at, has)
		}
	}
	if count != streams*blocks || b.Len() != 0 {
		t.Errorf("%d were due, and %d are there, want %d and 0", count, b.Len(), streams*blocks)
	}
}

// R4 and R5: what was answered stays as it was, and hangs on what was done to the same timers alone.

func TestAnswersStay(t *testing.T) {
	b, d := newBoth(t), dice(9)
	var got, want [][]api.Due
	for range 300 {
		for range 12 {
			b.set(key(d.below(5), uint32(d.below(20))), d.below(30))
		}
		b.drop(key(d.below(5), uint32(d.below(20))))
		l := b.due(d.below(30))
		got, want = append(got, l), append(want, slices.Clone(l))
		b.look()
	}
	b.end()
	for i := range got {
		if !slices.Equal(got[i], want[i]) {
			t.Fatalf("what was answered as %s is %s now", toldDue(want[i]), toldDue(got[i]))
		}
	}
}

// No two lists that are answered share memory, and the timers none with them.
func TestAnswersAreNewMemory(t *testing.T) {
	b := newBoth(t)
	var all [][]api.Due
	for round := range 20 {
		for i := range 10 {
			b.set(key(i, uint32(round)), i)
		}
		all = append(all, b.due(round%5), b.due(7))
		b.look()
	}
	for i, l := range all {
		for j := range l[:cap(l)] {
			l[:cap(l)][j] = api.Due{Key: key(-9, 99), At: i + 1}
		}
		b.look()
	}
	for i, l := range all {
		for _, x := range l {
			if x.At != i+1 {
				t.Fatalf("the list answered at place %d shares memory with the one at place %d", i, x.At-1)
			}
		}
	}
	b.end()
}

func TestTwoTimersShareNothing(t *testing.T) {
	first, second := newBoth(t), newBoth(t)
	for i := range 50 {
		k := key(i%3, uint32(i%10))
		first.set(k, i)
		second.look()
		second.set(k, most-i)
		first.look()
		second.drop(key(i%3, uint32((i+1)%10)))
		first.look()
		first.due(i - 5)
		second.look()
		second.due(most - i - 1)
		first.look()
	}
	first.due(math.MaxInt)
	second.end()
	first.end()
}

// Asking changes nothing: At, Next, Len, and a Due and a Drop of none, however often.
func TestAskingChangesNothing(t *testing.T) {
	b := newBoth(t)
	b.set(key(1, 1), 10)
	b.set(key(1, 2), 20)
	for range 50 {
		b.look()
		b.due(9)
		b.due(math.MinInt)
		b.drop(key(2, 1))
		b.at(key(2, 2))
	}
	if n := b.got.Len(); n != 2 {
		t.Errorf("Len: %d, want 2", n)
	}
	b.end()
}

// R1: on nil.

func TestNil(t *testing.T) {
	var none *timers.Timers
	for _, k := range farKeys() {
		for _, at := range append(noTimes(), edges()...) {
			if err := none.Set(k, at); err != api.ErrNil {
				t.Fatalf("Set(%s, %d): %d, want ErrNil", told(k), at, err)
			}
		}
		if none.Drop(k) {
			t.Errorf("Drop(%s): true", told(k))
		}
		if at, has := none.At(k); at != 0 || has {
			t.Errorf("At(%s): %d, %t, want 0, false", told(k), at, has)
		}
	}
	if at, has := none.Next(); at != 0 || has {
		t.Errorf("Next: %d, %t, want 0, false", at, has)
	}
	for _, now := range append(noTimes(), edges()...) {
		if l := none.Due(now); len(l) != 0 {
			t.Errorf("Due(%d): %s, want none", now, toldDue(l))
		}
	}
	if n := none.Len(); n != 0 {
		t.Errorf("Len: %d, want 0", n)
	}
}
