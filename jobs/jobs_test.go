package jobs_test

import (
	"math"
	"os"
	"runtime"
	"slices"
	"strconv"
	"strings"
	"sync"
	"testing"
	"time"

	"lightship/api"
	"lightship/jobs"
)

// most is how many jobs may wait at the most.
const most = 4096

// TestMain ends the tests, if a call does not end.
func TestMain(m *testing.M) {
	time.AfterFunc(3*time.Minute, func() { panic("a call does not end") })
	os.Exit(m.Run())
}

// plain is a queue that goes by the chapter's words, against which the others are held.
type plain struct {
	room   int
	jobs   []api.Job
	closed bool
}

func (p *plain) push(j api.Job) api.Errno {
	if p.closed {
		return api.ErrClosed
	}
	if len(p.jobs) >= p.room {
		return api.ErrFull
	}
	p.jobs = append(p.jobs, apart(j))
	return api.OK
}

func (p *plain) pop() (api.Job, bool) {
	if len(p.jobs) == 0 {
		return api.Job{}, false
	}
	first := p.jobs[0]
	p.jobs = p.jobs[1:]
	return first, true
}

func (p *plain) close() api.Errno {
	if p.closed {
		return api.ErrClosed
	}
	p.closed = true
	return api.OK
}

// apart is the same job, with shards of its own.
func apart(j api.Job) api.Job {
	j.Shards = append([]api.Shard(nil), j.Shards...)
	return j
}

// same: are all fields the same?
func same(a, b api.Job) bool {
	return a.Key == b.Key && a.K == b.K && a.N == b.N && a.Len == b.Len && slices.Equal(a.Shards, b.Shards)
}

// zero: is it the zero Job?
func zero(j api.Job) bool { return same(j, api.Job{}) && j.Shards == nil }

// numbered is a job that is unlike those of all other numbers in each of its fields.
func numbered(n int) api.Job {
	return api.Job{
		Key: api.Key{Stream: n, Block: uint32(n) + 1},
		K:   n + 2,
		N:   n + 3,
		Len: n + 4,
		Shards: []api.Shard{
			{Index: n, Body: "first of " + strconv.Itoa(n)},
			{Index: n + 1, Body: strconv.Itoa(n)},
		},
	}
}

// jobText is a job as it is told.
func jobText(j api.Job) string {
	told := []string{strconv.Itoa(j.Key.Stream) + "/" + strconv.FormatUint(uint64(j.Key.Block), 10), strconv.Itoa(j.K), strconv.Itoa(j.N), strconv.Itoa(j.Len)}
	for _, x := range j.Shards {
		told = append(told, strconv.Itoa(x.Index)+" "+strconv.Quote(x.Body))
	}
	return "{" + strings.Join(told, ", ") + "}"
}

// popText is what Pop told.
func popText(j api.Job, some bool) string { return jobText(j) + " (" + strconv.FormatBool(some) + ")" }

// both are a queue and the plain one that it is held against, to which the same is done; and what was done so far.
type both struct {
	t     *testing.T
	got   *jobs.Queue
	want  *plain
	count int
	calls []string
}

func newQueue(t *testing.T, room int) *jobs.Queue {
	t.Helper()
	q, err := jobs.New(room)
	if q == nil || err != api.OK {
		t.Fatalf("New(%d): %v, %d, want a queue, OK", room, q, err)
	}
	return q
}

func newBoth(t *testing.T, room int) *both {
	t.Helper()
	return &both{t: t, got: newQueue(t, room), want: &plain{room: room}}
}

// note keeps what was done, the last calls alone.
func (b *both) note(call string) {
	if len(b.calls) > 60 {
		b.calls = slices.Delete(b.calls, 0, 30)
	}
	b.calls = append(b.calls, call)
}

// fail ends the test, and tells what was done, the last calls alone if there were many.
func (b *both) fail(what string) {
	b.t.Helper()
	b.t.Fatalf("New(%d), at last %s: %s", b.want.room, strings.Join(b.calls, "; "), what)
}

// same ends the test, unless the last call was answered as it should be.
func (b *both) same(got, want api.Errno) api.Errno {
	b.t.Helper()
	if got != want {
		b.fail("error " + strconv.Itoa(int(got)) + ", want " + strconv.Itoa(int(want)))
	}
	return got
}

func (b *both) push(j api.Job) api.Errno {
	b.t.Helper()
	b.note("Push(" + strconv.Itoa(j.Key.Stream) + ")")
	return b.same(b.got.Push(j), b.want.push(j))
}

// pushNew hands in a job that is unlike all that came ahead.
func (b *both) pushNew() api.Errno {
	b.t.Helper()
	b.count++
	return b.push(numbered(b.count))
}

func (b *both) pop() bool {
	b.t.Helper()
	b.note("Pop")
	got, some := b.got.Pop()
	want, left := b.want.pop()
	if some != left || !same(got, want) || !some && !zero(got) {
		b.fail(popText(got, some) + ", want " + popText(want, left))
	}
	return some
}

func (b *both) close() api.Errno {
	b.t.Helper()
	b.note("Close")
	return b.same(b.got.Close(), b.want.close())
}

// ask asks for all that is told of the whole, twice, which would see whether asking changes something.
func (b *both) ask() {
	b.t.Helper()
	for range 2 {
		if got, want := b.got.Len(), len(b.want.jobs); got != want {
			b.fail("Len: " + strconv.Itoa(got) + ", want " + strconv.Itoa(want))
		}
		if got := b.got.Closed(); got != b.want.closed {
			b.fail("Closed: " + strconv.FormatBool(got) + ", want " + strconv.FormatBool(b.want.closed))
		}
	}
}

// fill hands jobs in until one is refused.
func (b *both) fill() {
	b.t.Helper()
	for b.pushNew() == api.OK {
		b.ask()
	}
	b.ask()
}

// drain takes all jobs, and then some that are not there.
func (b *both) drain() {
	b.t.Helper()
	for b.pop() {
		b.ask()
	}
	b.ask()
	b.pop()
	b.ask()
}

// laid is a queue of so much room in which so many jobs wait, and through which so many went ahead.
func laid(t *testing.T, room, ahead, many int) *both {
	t.Helper()
	b := newBoth(t, room)
	for range ahead {
		b.pushNew()
		b.pop()
	}
	for range many {
		if b.pushNew() != api.OK {
			b.fail("there is no room")
		}
	}
	b.ask()
	return b
}

// rooms are those with which tests go over what hangs on them.
func rooms() []int {
	return []int{1, 2, 3, 4, 5, 7, 8, 9, 16, 17, 100, 255, 256, 257, 1000, most - 1, most}
}

// fills are numbers of jobs that may wait in so much room: none, one, some, and all.
func fills(room int) []int {
	l := []int{0, 1, 2, room / 2, room - 1, room}
	slices.Sort(l)
	l = slices.DeleteFunc(l, func(many int) bool { return many > room })
	return slices.Compact(l)
}

// farInts are ints that are far from what may be; some may be in their last bits.
func farInts() []int {
	l := []int{math.MaxInt, math.MaxInt - 1, math.MinInt, math.MinInt + 1}
	for _, base := range []int{-1 << 62, -1 << 33, -1 << 32, -1 << 31, -1 << 16, -1 << 13, -1 << 12, 1 << 13, 1 << 16, 1 << 31, 1 << 32, 1 << 33, 1 << 62} {
		l = append(l, base, base+1, base+2, base+2048, base+4095)
	}
	return slices.DeleteFunc(l, func(n int) bool { return n >= 1 && n <= most })
}

// dice are numbers in no order, another row for each seed.
type dice uint64

// below is a number from 0 to n - 1.
func (d *dice) below(n int) int {
	*d = *d*6364136223846793005 + 1442695040888963407
	return int(uint64(*d)>>32) % n
}

// of is one of l.
func (d *dice) of(l ...int) int { return l[d.below(len(l))] }

// The chapter's example.

func TestExample(t *testing.T) {
	q := newQueue(t, 1)
	if first, second := q.Push(numbered(1)), q.Push(numbered(2)); first != api.OK || second != api.ErrFull {
		t.Errorf("Push, Push: %d, %d, want OK, ErrFull", first, second)
	}
	if q.Len() != 1 || q.Closed() {
		t.Errorf("Len %d, Closed %v, want 1, false", q.Len(), q.Closed())
	}
	if j, some := q.Pop(); !some || !same(j, numbered(1)) {
		t.Errorf("Pop: %s, want the first one", popText(j, some))
	}
}

// Promise 19.1: New.

// newAsked holds New of that room against the chapter's words.
func newAsked(t *testing.T, room int) {
	t.Helper()
	q, err := jobs.New(room)
	if room < 1 || room > most {
		if q != nil || err != api.ErrArg {
			t.Fatalf("New(%d): %v, %d, want nil, ErrArg", room, q, err)
		}
		return
	}
	if q == nil || err != api.OK {
		t.Fatalf("New(%d): %v, %d, want a queue, OK", room, q, err)
	}
	if q.Len() != 0 || q.Closed() {
		t.Fatalf("New(%d): Len %d, Closed %v, want 0, false", room, q.Len(), q.Closed())
	}
	if j, some := q.Pop(); some || !zero(j) {
		t.Fatalf("New(%d): Pop: %s, want none", room, popText(j, some))
	}
}

func TestNewByHand(t *testing.T) {
	for _, x := range []struct {
		room int
		want api.Errno
	}{{-1, 1}, {0, 1}, {1, 0}, {2, 0}, {4095, 0}, {4096, 0}, {4097, 1}, {math.MaxInt, 1}, {math.MinInt, 1}} {
		q, err := jobs.New(x.room)
		if err != x.want || (q == nil) != (x.want != 0) {
			t.Errorf("New(%d): %v, %d, want error %d", x.room, q, err, x.want)
		}
	}
}

func TestNewEachRoom(t *testing.T) {
	for room := -10000; room <= 20000; room++ {
		newAsked(t, room)
	}
	for _, room := range farInts() {
		newAsked(t, room)
	}
}

// Promise 19.1: Push.

// There is room for just as many jobs as New was told, at first and behind them.
func TestEachRoomIsKept(t *testing.T) {
	for room := 1; room <= most; room++ {
		q := newQueue(t, room)
		for i := range room {
			if err := q.Push(api.Job{K: i}); err != api.OK {
				t.Fatalf("room %d: Push number %d: %d, want OK", room, i+1, err)
			}
		}
		for range 2 {
			if err := q.Push(api.Job{K: -1}); err != api.ErrFull || q.Len() != room {
				t.Fatalf("room %d: one more: %d, Len %d, want ErrFull, %d", room, err, q.Len(), room)
			}
		}
		for i := range room {
			if j, some := q.Pop(); !some || j.K != i {
				t.Fatalf("room %d: Pop number %d: %s", room, i+1, popText(j, some))
			}
		}
		if j, some := q.Pop(); some || !zero(j) || q.Len() != 0 {
			t.Fatalf("room %d: one more: %s, Len %d, want none, 0", room, popText(j, some), q.Len())
		}
	}
}

func TestPushUpToRoom(t *testing.T) {
	for _, room := range rooms() {
		b := laid(t, room, 0, room-1)
		if b.pushNew() != api.OK {
			b.fail("there was no room for the last one")
		}
		b.ask()
		for range 5 {
			if b.pushNew() != api.ErrFull {
				b.fail("it was not full")
			}
			b.ask()
		}
		// One that goes makes room for one, and for no more.
		for range min(room, 20) + 2 {
			b.pop()
			b.ask()
			if b.pushNew() != api.OK || b.pushNew() != api.ErrFull {
				b.fail("there is not just room for one")
			}
			b.ask()
		}
		b.drain()
		b.fill()
		b.drain()
	}
}

// Whatever is refused changes nothing: nothing of it comes out, and all others do, in order.
func TestPushRefusedChangesNothing(t *testing.T) {
	for _, room := range rooms() {
		for _, many := range fills(room) {
			b := laid(t, room, 3, many)
			if many < room {
				b.close()
			}
			for range 3 {
				for _, j := range []api.Job{{}, numbered(-7), {Shards: make([]api.Shard, 40)}} {
					if b.push(j) == api.OK {
						b.fail("it came in")
					}
					b.ask()
				}
			}
			b.drain()
		}
	}
}

func TestPushClosed(t *testing.T) {
	for _, room := range rooms() {
		for _, many := range fills(room) {
			b := laid(t, room, many%3, many)
			b.close()
			for range 3 {
				// Closed is asked ahead of full.
				if b.pushNew() != api.ErrClosed {
					b.fail("it is not closed")
				}
				b.ask()
			}
			for b.pop() {
				if b.pushNew() != api.ErrClosed {
					b.fail("it is not closed")
				}
				b.ask()
			}
			if b.pushNew() != api.ErrClosed {
				b.fail("it is not closed")
			}
			b.drain()
		}
	}
}

// Promise 19.1: each field comes out as it went in.

// someJobs are jobs of all kinds: most of them are like another one in all fields but one.
func someJobs() []api.Job {
	numbers := []int{0, 1, -1, 2, 32, 33, 254, 255, 256, 1024, 32768, 1 << 31, 1<<31 - 1, -1 << 31, 1 << 32, 1<<32 + 1, 1 << 62, math.MaxInt, math.MinInt}
	l := []api.Job{{}, {}, numbered(0), numbered(0)}
	for _, n := range numbers {
		l = append(l,
			api.Job{Key: api.Key{Stream: n}}, api.Job{K: n}, api.Job{N: n}, api.Job{Len: n},
			api.Job{Shards: []api.Shard{{Index: n}}},
			api.Job{Shards: []api.Shard{{Index: n}, {Index: n, Body: "a"}, {Index: -n}}},
			api.Job{Key: api.Key{Stream: n, Block: uint32(n)}, K: n, N: n, Len: n, Shards: []api.Shard{{Index: n, Body: "ab"}}})
	}
	for _, block := range []uint32{0, 1, 2, 255, 1 << 16, 1<<31 - 1, 1 << 31, 1<<32 - 2, 1<<32 - 1} {
		l = append(l, api.Job{Key: api.Key{Block: block}})
	}
	for _, body := range []string{"", "a", "\x00", "\x00\x00", "\xff\xfe\xc3\x28", "\u00e4\u20ac\U0001f6a2", "\r\n\t \"", strings.Repeat("x", 1024), strings.Repeat("yz", 40000)} {
		l = append(l, api.Job{Shards: []api.Shard{{Body: body}}}, api.Job{Shards: []api.Shard{{Index: 3, Body: "a" + body}, {Index: 1, Body: body}, {Index: 3, Body: body}}})
	}
	for _, many := range []int{0, 1, 2, 3, 4, 5, 31, 32, 33, 254, 255, 256, 1000} {
		l = append(l, api.Job{Shards: make([]api.Shard, many)})
		shards := make([]api.Shard, many, many+9)
		for i := range shards {
			shards[i] = api.Shard{Index: many - i, Body: strconv.Itoa(i)}
		}
		l = append(l, api.Job{K: many, N: 255, Len: 1, Shards: shards}, api.Job{Shards: shards[:many/2]})
	}
	return l
}

// Each by itself, at first and behind others.
func TestJobsComeOutAsTheyWere(t *testing.T) {
	for i, j := range someJobs() {
		q := newQueue(t, 3)
		for _, others := range []int{0, 1, 2} {
			for n := range others {
				q.Push(numbered(n))
			}
			before := apart(j)
			if err := q.Push(j); err != api.OK || !same(j, before) {
				t.Fatalf("job %d: %d, and it is %s by now, want OK, %s", i, err, jobText(j), jobText(before))
			}
			for range others {
				q.Pop()
			}
			if out, some := q.Pop(); !some || !same(out, before) {
				t.Fatalf("job %d, behind %d others: %s, want %s", i, others, popText(out, some), jobText(before))
			}
		}
	}
}

// All of them, one behind the other.
func TestAllJobsComeOutAsTheyWere(t *testing.T) {
	l := someJobs()
	for _, room := range []int{1, 2, 3, 50, len(l) - 1, len(l), most} {
		b := newBoth(t, room)
		for _, j := range l {
			for b.push(j) != api.OK {
				b.pop()
				b.ask()
			}
			b.ask()
		}
		b.close()
		b.drain()
	}
}

// A job that was handed in often comes out as often, and one that came out may come in anew.
func TestTheSameJobOften(t *testing.T) {
	for _, room := range []int{1, 2, 3, 10, most} {
		b := newBoth(t, room)
		for range 2 {
			for b.push(numbered(7)) == api.OK {
			}
			b.ask()
			for range 10 {
				j, some := b.got.Pop()
				if b.want.pop(); !some || !same(j, numbered(7)) {
					b.fail(popText(j, some) + ", want number 7")
				}
				b.push(j)
				b.ask()
			}
			b.drain()
		}
	}
}

// Promise 19.1: Pop.

func TestPopByHand(t *testing.T) {
	q := newQueue(t, 3)
	wantNone := func() {
		t.Helper()
		if j, some := q.Pop(); some || !zero(j) {
			t.Fatalf("Pop: %s, want none", popText(j, some))
		}
	}
	wantJob := func(n, left int) {
		t.Helper()
		if j, some := q.Pop(); !some || !same(j, numbered(n)) {
			t.Fatalf("Pop: %s, want number %d", popText(j, some), n)
		}
		if many := q.Len(); many != left {
			t.Fatalf("Len: %d, want %d", many, left)
		}
	}
	push := func(n int, want api.Errno) {
		t.Helper()
		if err := q.Push(numbered(n)); err != want {
			t.Fatalf("Push of number %d: %d, want %d", n, err, want)
		}
	}
	wantNone()
	wantNone()
	push(5, api.OK)
	wantJob(5, 0)
	wantNone()
	push(9, api.OK)
	push(2, api.OK)
	push(4, api.OK)
	push(1, api.ErrFull)
	wantJob(9, 2)
	push(1, api.OK)
	wantJob(2, 2)
	wantJob(4, 1)
	push(2, api.OK)
	if err := q.Close(); err != api.OK || !q.Closed() {
		t.Fatalf("Close: %d, Closed %v, want OK, true", err, q.Closed())
	}
	push(3, api.ErrClosed)
	wantJob(1, 1)
	push(3, api.ErrClosed)
	wantJob(2, 0)
	wantNone()
	push(3, api.ErrClosed)
	wantNone()
}

// Of many each comes out once, in the order in which they came in, and none behind them; how they are told hangs on no field.
func TestPopInOrder(t *testing.T) {
	for _, room := range rooms() {
		for _, many := range fills(room) {
			b := newBoth(t, room)
			for i := range many {
				// Neither rising nor falling.
				if b.push(numbered(i*7919%10007-5000)) != api.OK {
					b.fail("there is no room")
				}
			}
			b.drain()
			b.drain()
		}
	}
}

// Jobs come and go by turns, so many and so many, far more than there is room for.
func TestComeAndGoByTurns(t *testing.T) {
	for _, room := range []int{1, 2, 3, 4, 5, 7, 8, 16, 17} {
		for come := 1; come <= room+1; come++ {
			for _, leave := range []int{1, 2, come - 1, come, come + 1, room} {
				b := newBoth(t, room)
				for range 40 {
					for range come {
						b.pushNew()
					}
					b.ask()
					for range leave {
						b.pop()
					}
					b.ask()
				}
				b.drain()
			}
		}
	}
	for _, room := range []int{100, 1000, most} {
		for _, many := range fills(room) {
			b := laid(t, room, 0, many)
			for range 3*room + 10 {
				b.pushNew()
				b.pop()
			}
			b.ask()
			b.drain()
		}
	}
}

// It is full and empty by turns.
func TestFullAndEmptyByTurns(t *testing.T) {
	for _, room := range rooms() {
		b := newBoth(t, room)
		for range 12 {
			b.fill()
			b.pushNew()
			b.drain()
		}
		b.fill()
		b.close()
		b.drain()
	}
}

// Promise 19.1: Close, Closed and Len.

func TestClose(t *testing.T) {
	for _, room := range rooms() {
		for _, many := range fills(room) {
			b := laid(t, room, room%5, many)
			if b.got.Closed() {
				b.fail("it is closed ahead of Close")
			}
			if b.close() != api.OK {
				b.fail("it was closed already")
			}
			b.ask()
			for range 4 {
				if b.close() != api.ErrClosed {
					b.fail("it is closed twice")
				}
				b.ask()
			}
			// What waits still comes out, and nothing opens it.
			for b.pop() {
				if b.close() != api.ErrClosed || b.pushNew() != api.ErrClosed {
					b.fail("it is not closed any more")
				}
				b.ask()
			}
			b.close()
			b.drain()
			b.close()
			b.ask()
		}
	}
}

// A queue that was emptied, or was refused one, is closed like any other.
func TestCloseBehindAll(t *testing.T) {
	b := newBoth(t, 2)
	b.fill()
	b.drain()
	b.close()
	b.pushNew()
	b.ask()
	b.drain()
	b = newBoth(t, 1)
	b.pop()
	b.close()
	b.pop()
	b.ask()
	b.pushNew()
	b.drain()
	b = laid(t, 3, 0, 3)
	b.pushNew()
	b.close()
	b.pushNew()
	b.pop()
	b.pushNew()
	b.ask()
	b.drain()
}

// Promise 19.1: many calls one behind the other.

// All rows of so many calls out of four kinds; then all is taken.
func rows(t *testing.T, room, length int) {
	t.Helper()
	const kinds = 4
	all := 1
	for range length {
		all *= kinds
	}
	for row := range all {
		b := newBoth(t, room)
		for range length {
			switch row % kinds {
			case 0:
				b.pushNew()
			case 1:
				b.push(api.Job{})
			case 2:
				b.pop()
			default:
				b.close()
			}
			b.ask()
			row /= kinds
		}
		b.drain()
	}
}

func TestEachRowOfCalls(t *testing.T) {
	rows(t, 1, 7)
	rows(t, 2, 8)
	rows(t, 3, 8)
	rows(t, 4, 7)
	rows(t, 5, 7)
}

// mix makes many calls, the next one by chance of a fixed seed; it is closed at last, and some more are made.
func mix(t *testing.T, room, many int, seed uint64) {
	t.Helper()
	b, d := newBoth(t, room), dice(seed)
	l := someJobs()
	// So long as more come than go it is full most of the time, and then the other way round.
	comes := 5
	for i := range many {
		switch d.below(10) {
		case 0:
			b.push(l[d.below(len(l))])
		case 1:
			comes = 2 + d.below(7)
		case 2:
			for range d.below(room + 2) {
				b.pop()
			}
		case 3:
			for range d.below(room + 2) {
				b.pushNew()
			}
		default:
			if d.below(10) < comes {
				b.pushNew()
			} else {
				b.pop()
			}
		}
		b.ask()
		if i == many*9/10 {
			b.close()
		}
	}
	b.drain()
}

func TestMixed(t *testing.T) {
	for seed := range uint64(10) {
		for _, room := range []int{1, 2, 3, 4, 5, 7, 8, 9, 15, 16, 17, 31, 64, 100} {
			mix(t, room, 600, seed+1)
		}
	}
	for seed := range uint64(3) {
		for _, room := range []int{255, 256, 257, 1000, most - 1, most} {
			mix(t, room, 150, seed+100)
		}
	}
}

// R4 and R5: memory, and what is answered.

// spoil writes over a list, also behind its end where it has room.
func spoil(l []api.Shard) {
	l = l[:cap(l)]
	for i := range l {
		l[i] = api.Shard{Index: 99, Body: "spoiled"}
	}
}

// What was handed in is written over while the job waits: it comes out as it was handed in.
func TestKeepsNoListHandedIn(t *testing.T) {
	for _, many := range []int{0, 1, 2, 3, 5, 32, 255} {
		for _, spare := range []int{0, 1, 7} {
			b := newBoth(t, 3)
			shards := make([]api.Shard, many, many+spare)
			for i := range 3 {
				for at := range shards {
					shards[at] = api.Shard{Index: at + i, Body: strconv.Itoa(at * i)}
				}
				b.push(api.Job{K: i, Shards: shards})
				spoil(shards)
			}
			b.push(api.Job{Shards: shards})
			b.ask()
			b.drain()
		}
	}
}

// A list that was handed in often comes out as often, each time by itself, and what was handed in stays as it was.
func TestJobsShareNoList(t *testing.T) {
	const many = 5
	shards := make([]api.Shard, many, 2*many)
	for i := range shards {
		shards[i] = api.Shard{Index: i, Body: "body" + strconv.Itoa(i)}
	}
	before := slices.Clone(shards[:cap(shards)])
	q := newQueue(t, 10)
	for i := range 10 {
		// Some of them are parts of others, with the rest behind.
		if err := q.Push(api.Job{K: i, Shards: shards[:many-i%2]}); err != api.OK {
			t.Fatalf("Push number %d: %d", i, err)
		}
	}
	var told []api.Job
	for i := range 10 {
		j, some := q.Pop()
		if !some || j.K != i || !slices.Equal(j.Shards, before[:many-i%2]) {
			t.Fatalf("Pop number %d: %s", i, popText(j, some))
		}
		told = append(told, j)
		// The first half is written to at once, the others at last.
		if i < 5 {
			spoil(j.Shards)
			_ = append(j.Shards, api.Shard{Body: "spoiled too"})
		}
	}
	for i := 5; i < 10; i++ {
		if !slices.Equal(told[i].Shards, before[:many-i%2]) {
			t.Errorf("number %d is %s by now", i, jobText(told[i]))
		}
		spoil(told[i].Shards)
	}
	if !slices.Equal(shards[:cap(shards)], before) {
		t.Errorf("what was handed in is another by now: %v", shards[:cap(shards)])
	}
}

// What came out stays as it was, whatever comes in and goes later.
func TestAnswersStay(t *testing.T) {
	for _, room := range []int{1, 2, 3, 8, 100} {
		b, d := newBoth(t, room), dice(room)
		var got, want []api.Job
		for range 3000 {
			if d.below(2) == 0 {
				b.pushNew()
				continue
			}
			j, some := b.got.Pop()
			if k, left := b.want.pop(); some != left || !same(j, k) {
				b.fail(popText(j, some) + ", want " + popText(k, left))
			}
			got, want = append(got, j), append(want, apart(j))
		}
		for i := range got {
			if !same(got[i], want[i]) {
				t.Fatalf("room %d: answer %d was %s, and is %s by now", room, i, jobText(want[i]), jobText(got[i]))
			}
		}
	}
}

// held is how many bytes are in use.
func held() uint64 {
	var m runtime.MemStats
	runtime.GC()
	runtime.ReadMemStats(&m)
	return m.HeapAlloc
}

// What is gone, or was refused, is kept no longer, though others wait behind it.
func TestWhatIsGoneIsNotKept(t *testing.T) {
	great := func() api.Job {
		return api.Job{Shards: []api.Shard{{Body: strings.Repeat("x", 50000)}, {Body: strings.Repeat("y", 50000)}}}
	}
	q := newQueue(t, 600)
	for range 600 {
		q.Push(api.Job{})
	}
	for range 600 {
		q.Pop()
	}
	before := held()
	for range 500 {
		q.Push(great())
	}
	for range 50 {
		q.Push(numbered(1))
	}
	for range 500 {
		q.Pop()
	}
	if after := held(); after > before+1<<22 {
		t.Errorf("%d bytes were held, and %d more are, behind jobs that are gone", before, after-before)
	}
	q.Close()
	for range 500 {
		q.Push(great())
	}
	if after := held(); after > before+1<<22 {
		t.Errorf("%d bytes were held, and %d more are, behind jobs that were refused", before, after-before)
	}
	if many := q.Len(); many != 50 {
		t.Errorf("Len: %d, want 50", many)
	}
	runtime.KeepAlive(q)
}

// Many jobs through a queue in which few wait: it does not grow by them.
func TestManyPass(t *testing.T) {
	for _, waits := range []int{0, 1, 3} {
		b := laid(t, most, 0, waits)
		before := held()
		for range 300000 {
			b.got.Push(api.Job{})
			b.got.Pop()
		}
		if after := held(); after > before+1<<20 {
			t.Errorf("%d wait: %d bytes were held, and %d more are", waits, before, after-before)
		}
		if many := b.got.Len(); many != waits {
			t.Errorf("Len: %d, want %d", many, waits)
		}
	}
}

func TestTwoShareNothing(t *testing.T) {
	first, second := newBoth(t, 3), newBoth(t, 5)
	second.count = 1000
	for i := range 300 {
		first.pushNew()
		second.ask()
		if i%2 == 0 {
			second.pushNew()
		}
		first.ask()
		if i%3 == 0 {
			first.pop()
		}
		second.ask()
		if i%5 == 0 {
			second.pop()
		}
		if i == 200 {
			first.close()
		}
		first.ask()
		second.ask()
	}
	first.drain()
	second.ask()
	second.drain()
	first.ask()
}

// R1: on nil.

func wantNil(t *testing.T, q *jobs.Queue) {
	t.Helper()
	for range 2 {
		for _, j := range someJobs() {
			if err := q.Push(j); err != api.ErrNil {
				t.Fatalf("nil: Push: %d, want ErrNil", err)
			}
		}
		if j, some := q.Pop(); some || !zero(j) {
			t.Fatalf("nil: Pop: %s, want none", popText(j, some))
		}
		if err := q.Close(); err != api.ErrNil {
			t.Fatalf("nil: Close: %d, want ErrNil", err)
		}
		if q.Closed() || q.Len() != 0 {
			t.Fatalf("nil: Closed %v, Len %d, want false, 0", q.Closed(), q.Len())
		}
	}
}

func TestNil(t *testing.T) {
	wantNil(t, nil)
	refused, _ := jobs.New(0)
	wantNil(t, refused)
	refused, _ = jobs.New(most + 1)
	wantNil(t, refused)
	b := laid(t, 3, 0, 2)
	wantNil(t, nil)
	b.drain()
}

// R1: several goroutines at once.

// workers is how many goroutines there are at once.
const workers = 8

// together calls f with 0 to n - 1, each in a goroutine of its own, all at once, and waits for all.
func together(n int, f func(worker int)) {
	var begin, end sync.WaitGroup
	begin.Add(n)
	for worker := range n {
		end.Go(func() {
			begin.Done()
			begin.Wait()
			f(worker)
		})
	}
	end.Wait()
}

// All push at once: just as many come in as there is room for, each once, those of one worker in its order.
func TestRoomIsKeptTogether(t *testing.T) {
	const each = 600
	for _, room := range []int{1, 10, 500, most} {
		for range 20 {
			q := newQueue(t, room)
			var in, full [workers]int
			together(workers, func(worker int) {
				for i := range each {
					switch q.Push(numbered(worker*each + i)) {
					case api.OK:
						in[worker]++
					case api.ErrFull:
						full[worker]++
					}
					if many := q.Len(); many < 1 || many > room {
						t.Errorf("Len: %d, want 1 to %d", many, room)
						return
					}
				}
			})
			all, none := 0, 0
			for worker := range workers {
				all, none = all+in[worker], none+full[worker]
			}
			if all != min(room, workers*each) || none != workers*each-all || q.Len() != all {
				t.Fatalf("room %d: %d came in, %d found no room, Len %d", room, all, none, q.Len())
			}
			var next [workers]int
			for range all {
				j, some := q.Pop()
				worker := j.Key.Stream / each
				if !some || !same(j, numbered(worker*each+next[worker])) {
					t.Fatalf("room %d: Pop: %s", room, popText(j, some))
				}
				next[worker]++
			}
			if next != in {
				t.Fatalf("room %d: %v came out, want %v", room, next, in)
			}
		}
	}
}

// All pop at once: each job comes out once, for each worker in order.
func TestEachGoesOnce(t *testing.T) {
	const many = most
	for range 30 {
		q := newQueue(t, many)
		for i := range many {
			q.Push(numbered(i))
		}
		var out [workers][]api.Job
		together(workers, func(worker int) {
			for j, some := q.Pop(); some; j, some = q.Pop() {
				out[worker] = append(out[worker], j)
			}
		})
		var seen [many]int
		for worker := range workers {
			last := -1
			for _, j := range out[worker] {
				n := j.Key.Stream
				if n <= last || !same(j, numbered(n)) {
					t.Fatalf("Pop: %s behind number %d", jobText(j), last)
				}
				seen[n]++
				last = n
			}
		}
		for n, times := range seen {
			if times != 1 {
				t.Fatalf("number %d came out %d times", n, times)
			}
		}
		if q.Len() != 0 {
			t.Fatalf("Len: %d, want 0", q.Len())
		}
	}
}

// Half of them push, and try again where it is full, the others pop: each job goes through once, and those of one come in its order.
func TestThroughTogether(t *testing.T) {
	const each = 5000
	for _, room := range []int{1, 2, 3, 100, most} {
		q := newQueue(t, room)
		var out [workers][]api.Job
		var pushers sync.WaitGroup
		pushers.Add(workers / 2)
		together(workers, func(worker int) {
			if worker < workers/2 {
				for i := range each {
					for q.Push(numbered(worker*each+i)) == api.ErrFull {
						runtime.Gosched()
					}
				}
				pushers.Done()
				pushers.Wait()
				// All but the first one find that it is closed.
				q.Close()
				return
			}
			for {
				// Nothing comes in any more behind this, so that a Pop of none is the last one.
				closed := q.Closed()
				j, some := q.Pop()
				switch {
				case some:
					out[worker] = append(out[worker], j)
				case closed:
					return
				default:
					runtime.Gosched()
				}
			}
		})
		var seen [workers / 2 * each]int
		for worker := range workers {
			var last [workers / 2]int
			for _, j := range out[worker] {
				n := j.Key.Stream
				if from := n / each; !same(j, numbered(n)) || n+1 <= last[from] {
					t.Fatalf("room %d: %s came behind number %d", room, jobText(j), last[from]-1)
				} else {
					last[from] = n + 1
				}
				seen[n]++
			}
		}
		for n, times := range seen {
			if times != 1 {
				t.Fatalf("room %d: number %d came out %d times", room, n, times)
			}
		}
		if q.Len() != 0 || !q.Closed() {
			t.Fatalf("room %d: Len %d, Closed %v, want 0, true", room, q.Len(), q.Closed())
		}
	}
}

// All close the same queues at once, one behind the other: each is closed by one of them.
func TestClosedOnce(t *testing.T) {
	const many = 2000
	for range 200 {
		var queues [many]*jobs.Queue
		for i := range queues {
			queues[i] = newQueue(t, 1)
		}
		var told [workers][many]api.Errno
		together(workers, func(worker int) {
			for i, q := range queues {
				told[worker][i] = q.Close()
				if !q.Closed() {
					t.Error("it is not closed behind Close")
				}
			}
		})
		for i := range queues {
			once := 0
			for worker := range workers {
				switch err := told[worker][i]; err {
				case api.OK:
					once++
				case api.ErrClosed:
				default:
					t.Fatalf("Close: %d", err)
				}
			}
			if once != 1 {
				t.Fatalf("it was closed %d times, want once", once)
			}
		}
	}
}

// One closes it while others push: nothing comes in behind that.
func TestNothingComesInBehindClose(t *testing.T) {
	for range 300 {
		q := newQueue(t, most)
		var in [workers]int
		behind := -1
		together(workers, func(worker int) {
			if worker == 0 {
				for q.Len() < 20 {
					runtime.Gosched()
				}
				q.Close()
				behind = q.Len()
				return
			}
			for i := 0; i < 400; i++ {
				closed := q.Closed()
				switch err := q.Push(numbered(i)); {
				case closed && err != api.ErrClosed:
					t.Errorf("Push behind Close: %d", err)
					return
				case err == api.OK:
					in[worker]++
				}
			}
		})
		all := 0
		for _, many := range in {
			all += many
		}
		if all != behind || q.Len() != behind {
			t.Fatalf("%d came in, and %d wait, want %d, as many as waited behind Close", all, q.Len(), behind)
		}
	}
}
