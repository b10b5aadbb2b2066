package drr_test

import (
	"math"
	"os"
	"slices"
	"strconv"
	"strings"
	"testing"
	"time"

	"lightship/api"
	"lightship/drr"
)

// most is the greatest quantum, the greatest Size, and how many items of one queue may wait.
const most = 65536

// TestMain ends the tests, if a call does not end.
func TestMain(m *testing.M) {
	time.AfterFunc(2*time.Minute, func() { panic("a call does not end") })
	os.Exit(m.Run())
}

// plainQueue is a queue that goes by the chapter's words.
type plainQueue struct {
	weight  int
	deficit int
	served  bool
	items   []api.Item
}

// plain is queues that go by the chapter's words, against which the others are held: each step of a round is one of its own.
type plain struct {
	quantum int
	queues  map[int]*plainQueue
	round   []int
}

func (p *plain) has(id int) bool { return p.queues[id] != nil }

func (p *plain) add(id, weight int) api.Errno {
	if id < 0 || id > 255 || weight < 1 || weight > 255 {
		return api.ErrRange
	}
	if p.has(id) {
		return api.ErrTwice
	}
	p.queues[id] = &plainQueue{weight: weight}
	return api.OK
}

func (p *plain) remove(id int) api.Errno {
	if !p.has(id) {
		return api.ErrNone
	}
	delete(p.queues, id)
	var others []int
	for _, other := range p.round {
		if other != id {
			others = append(others, other)
		}
	}
	p.round = others
	return api.OK
}

func (p *plain) push(x api.Item) api.Errno {
	if !p.has(x.ID) {
		return api.ErrNone
	}
	if x.Size < 1 || x.Size > most {
		return api.ErrRange
	}
	q := p.queues[x.ID]
	if len(q.items) == most {
		return api.ErrFull
	}
	if len(q.items) == 0 {
		p.round = append(p.round, x.ID)
		q.deficit, q.served = 0, false
	}
	q.items = append(q.items, x)
	return api.OK
}

func (p *plain) next() (api.Item, bool) {
	for len(p.round) > 0 {
		id := p.round[0]
		q := p.queues[id]
		if !q.served {
			q.deficit += p.quantum * q.weight
			q.served = true
		}
		x := q.items[0]
		if x.Size > q.deficit {
			q.served = false
			p.round = append(p.round[1:], id)
			continue
		}
		q.deficit -= x.Size
		q.items = q.items[1:]
		if len(q.items) == 0 {
			q.deficit = 0
			p.round = p.round[1:]
		}
		return x, true
	}
	return api.Item{}, false
}

func (p *plain) length(id int) int {
	if !p.has(id) {
		return 0
	}
	return len(p.queues[id].items)
}

func (p *plain) waiting() int {
	many := 0
	for _, q := range p.queues {
		many += len(q.items)
	}
	return many
}

// call is one that was made, and its numbers.
type call struct {
	name string
	a, b int
}

func (c call) String() string {
	switch c.name {
	case "Next":
		return "Next()"
	case "Remove":
		return "Remove(" + strconv.Itoa(c.a) + ")"
	}
	return c.name + "(" + strconv.Itoa(c.a) + ", " + strconv.Itoa(c.b) + ")"
}

// both are queues and the plain ones that they are held against, to which the same is done; and what was done so far.
type both struct {
	t     *testing.T
	got   *drr.Sched
	want  *plain
	calls []call
}

func newBoth(t *testing.T, quantum int) *both {
	t.Helper()
	s, err := drr.New(quantum)
	if err != api.OK || s == nil {
		t.Fatalf("New(%d): %v, %d, want queues, OK", quantum, s, err)
	}
	return &both{t: t, got: s, want: &plain{quantum: quantum, queues: map[int]*plainQueue{}}}
}

// fail ends the test, and tells what was done, the last calls alone if there were many.
func (b *both) fail(what string) {
	b.t.Helper()
	var told []string
	for _, c := range b.calls[max(0, len(b.calls)-60):] {
		told = append(told, c.String())
	}
	b.t.Fatalf("New(%d), %d calls, at last %s: %s", b.want.quantum, len(b.calls), strings.Join(told, "; "), what)
}

// same ends the test, unless the last call was answered as it should be.
func (b *both) same(got, want api.Errno) api.Errno {
	if got != want {
		b.fail("error " + strconv.Itoa(int(got)) + ", want " + strconv.Itoa(int(want)))
	}
	return got
}

func (b *both) add(id, weight int) api.Errno {
	b.calls = append(b.calls, call{"Add", id, weight})
	return b.same(b.got.Add(id, weight), b.want.add(id, weight))
}

func (b *both) remove(id int) api.Errno {
	b.calls = append(b.calls, call{"Remove", id, 0})
	return b.same(b.got.Remove(id), b.want.remove(id))
}

func (b *both) push(id, size int) api.Errno {
	b.calls = append(b.calls, call{"Push", id, size})
	x := api.Item{ID: id, Size: size}
	return b.same(b.got.Push(x), b.want.push(x))
}

func (b *both) next() (api.Item, bool) {
	b.calls = append(b.calls, call{"Next", 0, 0})
	got, some := b.got.Next()
	want, left := b.want.next()
	if got != want || some != left {
		b.fail(told(got, some) + ", want " + told(want, left))
	}
	return got, some
}

// told is an answer of Next as it is told.
func told(x api.Item, some bool) string {
	return strconv.Itoa(x.Size) + " of " + strconv.Itoa(x.ID) + " (" + strconv.FormatBool(some) + ")"
}

// count asks how many wait, of each of those and of all.
func (b *both) count(ids ...int) {
	for _, id := range ids {
		if got := b.got.Len(id); got != b.want.length(id) {
			b.fail("Len(" + strconv.Itoa(id) + "): " + strconv.Itoa(got) + ", want " + strconv.Itoa(b.want.length(id)))
		}
	}
	if got := b.got.Waiting(); got != b.want.waiting() {
		b.fail("Waiting: " + strconv.Itoa(got) + ", want " + strconv.Itoa(b.want.waiting()))
	}
}

// look asks for all that can be asked, twice, which would see whether asking changes something.
func (b *both) look() {
	for range 2 {
		for id := range 256 {
			b.count(id)
		}
		b.count(noIDs()...)
	}
}

// drain takes all, which shows in which order the queues stand, and what their deficits are.
func (b *both) drain() {
	for some := true; some; {
		_, some = b.next()
	}
	b.count(0, 1, 2, 255)
}

// noIDs are ids of which no queue can be: some are 0 to 255 in their last bits.
func noIDs() []int {
	l := []int{-1, -2, -255, -256, -257, 256, 257, 258, 511, 512, 65535, 65536, math.MaxInt, math.MaxInt - 1, math.MinInt, math.MinInt + 1}
	for _, base := range []int{-1 << 62, -1 << 32, -1 << 31, -1 << 16, 1 << 16, 1 << 31, 1 << 32, 1 << 62} {
		l = append(l, base, base+1, base+255)
	}
	return l
}

// noWeights are weights that may not be, noSizes sizes that may not be: some may in their last bits.
func noWeights() []int { return append(noIDs(), 0) }

func noSizes() []int {
	l := []int{0, -1, -2, -65535, -65536, -65537, 65537, 65538, 131071, 131072, math.MaxInt, math.MaxInt - 1, math.MinInt, math.MinInt + 1}
	for _, base := range []int{-1 << 62, -1 << 32, -1 << 31, -1 << 17, 1 << 17, 1 << 31, 1 << 32, 1 << 62} {
		l = append(l, base, base+1, base+most)
	}
	return l
}

// dice are numbers in no order, another row for each seed.
type dice uint64

// below is a number from 0 to n - 1.
func (d *dice) below(n int) int {
	*d = *d*6364136223846793005 + 1442695040888963407
	return int(uint64(*d)>>32) % n
}

// of is one of l.
func (d *dice) of(l ...int) int { return l[d.below(len(l))] }

// errno is the error of that name.
func errno(t *testing.T, name string) api.Errno {
	t.Helper()
	switch name {
	case "ErrRange":
		return api.ErrRange
	case "ErrNone":
		return api.ErrNone
	case "ErrTwice":
		return api.ErrTwice
	case "ErrFull":
		return api.ErrFull
	}
	t.Fatalf("no error is named %q", name)
	return api.OK
}

// by does what lines say, and holds each answer against what is written there:
//
//	add ID WEIGHT, remove ID, push ID SIZE SIZE ..: OK, or the error that is named last
//	next ID SIZE SIZE ..: so many calls of Next answer these items
//	none: Next answers none, and false
//	len ID N, wait N
func by(t *testing.T, quantum int, lines ...string) {
	t.Helper()
	s, err := drr.New(quantum)
	if err != api.OK || s == nil {
		t.Fatalf("New(%d): %v, %d, want queues, OK", quantum, s, err)
	}
	for _, line := range lines {
		for step := range strings.SplitSeq(line, ";") {
			one(t, s, strings.Fields(step))
			if t.Failed() {
				t.Fatalf("quantum %d, at %q of %q", quantum, step, lines)
			}
		}
	}
}

// one does one step of by.
func one(t *testing.T, s *drr.Sched, words []string) {
	t.Helper()
	want, numbers := api.OK, []int{}
	for _, word := range words[1:] {
		if n, err := strconv.Atoi(word); err == nil {
			numbers = append(numbers, n)
		} else {
			want = errno(t, word)
		}
	}
	switch words[0] {
	case "add":
		if got := s.Add(numbers[0], numbers[1]); got != want {
			t.Errorf("error %d, want %d", got, want)
		}
	case "remove":
		if got := s.Remove(numbers[0]); got != want {
			t.Errorf("error %d, want %d", got, want)
		}
	case "push":
		for _, size := range numbers[1:] {
			if got := s.Push(api.Item{ID: numbers[0], Size: size}); got != want {
				t.Errorf("error %d, want %d", got, want)
			}
		}
	case "next":
		for _, size := range numbers[1:] {
			if x, some := s.Next(); !some || x != (api.Item{ID: numbers[0], Size: size}) {
				t.Errorf("%s, want %d of %d", told(x, some), size, numbers[0])
			}
		}
	case "none":
		if x, some := s.Next(); some || x != (api.Item{}) {
			t.Errorf("%s, want none", told(x, some))
		}
	case "len":
		if got := s.Len(numbers[0]); got != numbers[1] {
			t.Errorf("%d, want %d", got, numbers[1])
		}
	case "wait":
		if got := s.Waiting(); got != numbers[0] {
			t.Errorf("%d, want %d", got, numbers[0])
		}
	default:
		t.Errorf("no step is named %q", words[0])
	}
}

// The chapter's example.

func TestExample(t *testing.T) {
	by(t, 3,
		"add 0 1; add 1 2; push 0 3 3 3; push 1 3 3 3 3; wait 7",
		"next 0 3; next 1 3 3; next 0 3; next 1 3 3; next 0 3; none")
}

// Promise 17.1: New.

func TestNewEachQuantum(t *testing.T) {
	for quantum := -70000; quantum <= 140000; quantum++ {
		s, err := drr.New(quantum)
		if quantum < 1 || quantum > 65536 {
			if s != nil || err != api.ErrArg {
				t.Fatalf("New(%d): %v, %d, want nil, ErrArg", quantum, s, err)
			}
			continue
		}
		if s == nil || err != api.OK {
			t.Fatalf("New(%d): %v, %d, want queues, OK", quantum, s, err)
		}
	}
	for _, quantum := range noSizes() {
		if s, err := drr.New(quantum); s != nil || err != api.ErrArg {
			t.Errorf("New(%d): %v, %d, want nil, ErrArg", quantum, s, err)
		}
	}
}

// There are no queues at first: nothing waits, nothing goes and nothing comes in.
func TestNewHasNoQueues(t *testing.T) {
	for _, quantum := range []int{1, 2, 3, 255, 256, 65535, 65536} {
		b := newBoth(t, quantum)
		b.look()
		b.next()
		for id := range 256 {
			if b.remove(id) != api.ErrNone || b.push(id, 1) != api.ErrNone {
				b.fail("there is a queue at first")
			}
		}
		b.look()
		b.next()
	}
}

// A queue of weight 1 has just the quantum at its turn.
func TestQuantumIsKept(t *testing.T) {
	for _, quantum := range []int{1, 2, 3, 255, 256, 1000, 32768, 65535, 65536} {
		b := newBoth(t, quantum)
		b.add(0, 1)
		b.add(1, 1)
		for range 3 {
			b.push(0, quantum)
			b.push(1, min(most, quantum+1))
			b.push(0, 1)
			b.push(1, 1)
		}
		b.drain()
	}
}

// Promise 17.1: Add.

func TestAddByHand(t *testing.T) {
	by(t, 1,
		"add -1 1 ErrRange; add 0 0 ErrRange; add 0 256 ErrRange; add 256 1 ErrRange; add 255 -1 ErrRange; add 256 0 ErrRange",
		"remove 0 ErrNone; remove 255 ErrNone; remove 256 ErrNone; remove -1 ErrNone",
		"add 0 1; add 255 255; len 0 0; len 255 0; wait 0; none",
		"add 0 1 ErrTwice; add 0 2 ErrTwice; add 0 255 ErrTwice; add 0 0 ErrRange; add 0 256 ErrRange; add 0 -1 ErrRange",
		"add 255 255 ErrTwice; add 255 1 ErrTwice; add 255 256 ErrRange; add 256 255 ErrRange",
		"push 0 1; push 255 1; next 0 1; next 255 1; none")
}

// Each id with each weight that may be and some that may not, of queues that are there and that are not.
func TestAddEdges(t *testing.T) {
	ids := append(noIDs(), 0, 1, 2, 127, 128, 254, 255)
	weights := append(noWeights(), 1, 2, 3, 127, 128, 254, 255)
	for _, id := range ids {
		for _, weight := range weights {
			b := newBoth(t, 1)
			first := b.add(id, weight)
			if ok := id >= 0 && id <= 255 && weight >= 1 && weight <= 255; ok != (first == api.OK) {
				b.fail("error " + strconv.Itoa(int(first)))
			}
			b.count(id)
			// What was refused is not there, and what is there can't come again.
			b.push(id, 1)
			for _, again := range []int{weight, 1, 255, 0, 256} {
				b.add(id, again)
			}
			b.push(id, 1)
			b.count(id)
			b.drain()
		}
	}
}

func TestAddAll(t *testing.T) {
	b := newBoth(t, 1)
	for weight := range 258 {
		b.add(7, weight-1)
		b.remove(7)
	}
	for id := -300; id <= 600; id++ {
		b.add(id, 1+(id+300)%255)
	}
	b.look()
	for id := -300; id <= 600; id++ {
		b.push(id, 255)
		b.push(id, 1)
	}
	b.look()
	b.drain()
}

// A queue that is there stays as it is, with its weight, its deficit, its items, its place and its turn.
func TestAddTwiceChangesNothing(t *testing.T) {
	by(t, 3,
		"add 0 2; push 0 2 2 2 2; add 1 1; push 1 3 3 3",
		"next 0 2 2; add 0 2 ErrTwice; add 0 1 ErrTwice; add 0 255 ErrTwice; len 0 2; wait 5",
		"next 0 2; add 0 100 ErrTwice; add 1 100 ErrTwice; next 1 3; add 1 255 ErrTwice; next 0 2; next 1 3 3; none",
		"add 0 255 ErrTwice; add 1 255 ErrTwice; push 0 6 1; push 1 3 3; next 0 6; next 1 3; next 0 1; next 1 3; none")
	for taken := range 9 {
		b := newBoth(t, 5)
		b.add(3, 1)
		b.add(4, 2)
		for i := range 5 {
			b.push(3, 1+i)
			b.push(4, 5-i)
		}
		for range taken {
			b.next()
		}
		for _, weight := range append(noWeights(), 1, 2, 3, 255) {
			b.add(3, weight)
			b.add(4, weight)
			b.count(3, 4)
		}
		b.drain()
	}
}

// A weight lets a queue take so many quanta at a turn.
func TestEachWeight(t *testing.T) {
	for weight := 1; weight <= 255; weight++ {
		s, _ := drr.New(7)
		s.Add(0, weight)
		s.Add(1, 1)
		for range 2*weight + 1 {
			s.Push(api.Item{ID: 0, Size: 7})
		}
		for range 3 {
			s.Push(api.Item{ID: 1, Size: 7})
		}
		for i := range 2*weight + 4 {
			want := 0
			if i == weight || i == 2*weight+1 || i == 2*weight+3 {
				want = 1
			}
			if x, some := s.Next(); !some || x != (api.Item{ID: want, Size: 7}) {
				t.Fatalf("weights %d and 1: call %d of Next: %s, want 7 of %d", weight, i, told(x, some), want)
			}
		}
	}
}

// Promise 17.1: Remove.

func TestRemoveByHand(t *testing.T) {
	// One that is not there, that is empty, that has items, and again.
	by(t, 4, "remove 3 ErrNone; add 3 1; remove 3; remove 3 ErrNone; push 3 1 ErrNone; len 3 0; none",
		"add 3 1; push 3 1 2 3; len 3 3; wait 3; remove 3; len 3 0; wait 0; none; remove 3 ErrNone; push 3 1 ErrNone")
	// The first one, not served: the others keep their places.
	by(t, 4, "add 0 1; add 1 1; add 2 1; push 0 4; push 1 4; push 2 4; remove 0; wait 2; next 1 4; next 2 4; none")
	// The one in the middle, and the last one.
	by(t, 4, "add 0 1; add 1 1; add 2 1; push 0 4; push 1 4; push 2 4; remove 1; wait 2; next 0 4; next 2 4; none")
	by(t, 4, "add 0 1; add 1 1; add 2 1; push 0 4; push 1 4; push 2 4; remove 2; wait 2; next 0 4; next 1 4; none")
	// The one that is served: the next one begins with its turn, and not with what was left.
	by(t, 4, "add 0 1; add 1 1; add 2 1; push 0 3 1; push 1 4 1; push 2 1; next 0 3; remove 0; next 1 4; next 2 1; next 1 1; none")
	// One that is behind the one that is served, which keeps what is left to it.
	by(t, 4, "add 0 1; add 1 1; add 2 1; push 0 3 1 1; push 1 4 1; push 2 1; next 0 3; remove 1; next 0 1; next 2 1; next 0 1; none")
	by(t, 4, "add 0 1; add 1 1; add 2 1; push 0 3 2 1; push 1 4; push 2 1; next 0 3; remove 2; next 1 4; next 0 2 1; none")
	// An empty one, while another is served.
	by(t, 4, "add 0 1; add 1 1; push 0 3 1 1; next 0 3; remove 1; next 0 1 1; none")
	// All, one by one.
	by(t, 4, "add 0 1; add 1 1; push 0 1 2; push 1 3 4; remove 1; remove 0; wait 0; none; add 0 1; add 1 1; wait 0; none")
}

// An id that is removed and made again: it is empty, with its new weight, its deficit 0, and last in the round once it has something.
func TestRemoveAndAddAgain(t *testing.T) {
	by(t, 5,
		"add 0 1; add 1 1; push 0 3 3; push 1 5 5 5; next 0 3; remove 0; add 0 1; len 0 0; wait 3",
		"push 0 7; len 0 1; next 1 5 5; next 0 7; next 1 5; none")
	by(t, 5,
		"add 0 100; add 1 1; push 0 1 1 1; push 1 5 5; next 0 1; remove 0; add 0 1; push 0 6",
		"next 1 5 5; next 0 6; none")
	by(t, 5,
		"add 0 1; add 1 1; push 0 6 1; push 1 5 5 5; next 1 5; remove 0; add 0 2; push 0 10 5 5",
		"next 0 10; next 1 5; next 0 5 5; next 1 5; none")
	by(t, 5,
		"add 0 1; push 0 1 1 1; next 0 1; remove 0; add 0 1; none; push 0 5 5; next 0 5 5; none")
}

// Each of five queues is removed behind each number of calls of Next, and comes again or not.
func TestRemoveEach(t *testing.T) {
	for taken := range 16 {
		for gone := range 6 {
			for kind := range 4 {
				b := newBoth(t, 4)
				for id := range 5 {
					b.add(id, 1+id%2)
					for i := range 3 {
						b.push(id, 2+(id+i)%4)
					}
				}
				for range taken {
					b.next()
				}
				b.remove(gone)
				b.look()
				if kind > 0 {
					b.add(gone, kind)
					b.push(gone, 3)
					b.push((gone+kind)%5, 3)
				}
				b.drain()
			}
		}
	}
}

// What is not there can't be removed, and others stay.
func TestRemoveOthers(t *testing.T) {
	b := newBoth(t, 3)
	for _, id := range []int{0, 1, 255} {
		b.add(id, 2)
		for range 4 {
			b.push(id, 2)
		}
	}
	for _, id := range append(noIDs(), 2, 3, 127, 128, 253, 254) {
		if b.remove(id) != api.ErrNone {
			b.fail("it was there")
		}
		b.next()
	}
	b.drain()
}

// Promise 17.1: Push.

func TestPushByHand(t *testing.T) {
	by(t, 1,
		"push 0 1 ErrNone; push 0 0 ErrNone; push -1 1 ErrNone; push 256 1 ErrNone; push 256 65537 ErrNone; wait 0",
		"add 0 255; push 0 0 ErrRange; push 0 -1 ErrRange; push 0 65537 ErrRange; push 1 0 ErrNone; push 256 0 ErrNone; wait 0; len 0 0; none",
		"push 0 1 2 65535 65536; push 0 65537 ErrRange; push 0 0 ErrRange; len 0 4; wait 4; next 0 1 2 65535 65536; none; len 0 0; wait 0")
	// Onto an empty queue: it is the last one, also if it was the first one a moment ago.
	by(t, 6,
		"add 0 1; add 1 1; add 2 1; push 2 6; push 0 6; push 1 6; next 2 6; push 2 6; next 0 6; push 0 6; next 1 6; next 2 6; next 0 6; none")
	// Onto one that has items: it keeps its place, its deficit and its turn.
	by(t, 6,
		"add 0 1; add 1 1; push 0 2 2; push 1 6; push 0 1; push 0 1; len 0 4; next 0 2; push 0 1; next 0 2; push 0 6; next 0 1 1; next 1 6; next 0 1; wait 1; next 0 6; none")
	by(t, 6,
		"add 0 1; add 1 1; push 0 8 1; push 1 6 6 6; next 1 6; push 0 3 1; push 1 6; next 0 8 1 3; next 1 6; next 0 1; next 1 6 6; none")
}

// Each id and each Size, of queues that are there and that are not.
func TestPushEdges(t *testing.T) {
	sizes := append(noSizes(), 1, 2, 3, 255, 256, 65535, 65536)
	for _, quantum := range []int{1, 65536} {
		b := newBoth(t, quantum)
		for _, id := range []int{0, 1, 127, 255} {
			b.add(id, 255)
		}
		for _, size := range sizes {
			for _, id := range append(noIDs(), 0, 1, 2, 127, 128, 254, 255) {
				there := id == 0 || id == 1 || id == 127 || id == 255
				ok := there && size >= 1 && size <= 65536
				if got := b.push(id, size); ok != (got == api.OK) || !there && got != api.ErrNone {
					b.fail("error " + strconv.Itoa(int(got)))
				}
				b.count(id, 0)
			}
		}
		b.drain()
	}
}

func TestPushEachSize(t *testing.T) {
	s, _ := drr.New(1)
	s.Add(5, 255)
	for size := -300; size <= 131400; size++ {
		x, want := api.Item{ID: 5, Size: size}, api.OK
		if size < 1 || size > 65536 {
			want = api.ErrRange
		}
		if got := s.Push(x); got != want {
			t.Fatalf("Push of Size %d: %d, want %d", size, got, want)
		}
		if got, some := s.Next(); some != (want == api.OK) || some && got != x || !some && got != (api.Item{}) {
			t.Fatalf("Size %d: Next: %s", size, told(got, some))
		}
	}
}

// 2^16 items of one queue may wait, and no more; of each queue for itself.
func TestPushUntilFull(t *testing.T) {
	s, _ := drr.New(3)
	s.Add(0, 1)
	s.Add(1, 1)
	for i := range most {
		for id := range 2 {
			if err := s.Push(api.Item{ID: id, Size: 1 + (i+id)%5}); err != api.OK {
				t.Fatalf("item %d of queue %d: error %d", i, id, err)
			}
		}
	}
	full := func(id, size int, want api.Errno) {
		t.Helper()
		if err := s.Push(api.Item{ID: id, Size: size}); err != want {
			t.Fatalf("Push(%d, %d): error %d, want %d", id, size, err, want)
		}
		if s.Len(0) != most || s.Len(1) != most || s.Waiting() != 2*most {
			t.Fatalf("%d and %d items wait, %d in all, want 65536 and 65536, 131072 in all", s.Len(0), s.Len(1), s.Waiting())
		}
	}
	for _, id := range []int{0, 1} {
		full(id, 1, api.ErrFull)
		full(id, 65536, api.ErrFull)
		full(id, 0, api.ErrRange)
		full(id, 65537, api.ErrRange)
	}
	full(2, 1, api.ErrNone)
	// There is room for one behind each that is taken: the first one took three bytes at its turn, of its items 1, 2, 3 ..
	for _, size := range []int{1, 2} {
		if x, some := s.Next(); !some || x != (api.Item{ID: 0, Size: size}) {
			t.Fatalf("Next: %s, want %d of 0", told(x, some), size)
		}
		if s.Len(0) != most-1 {
			t.Fatalf("%d items wait behind one that was taken", s.Len(0))
		}
		if err := s.Push(api.Item{ID: 0, Size: 4}); err != api.OK {
			t.Fatalf("Push: error %d, want OK", err)
		}
		full(0, 4, api.ErrFull)
		full(1, 4, api.ErrFull)
	}
	if x, some := s.Next(); !some || x != (api.Item{ID: 1, Size: 2}) {
		t.Fatalf("Next: %s, want 2 of 1", told(x, some))
	}
}

// A queue that was full takes as many as were taken, in their order, while it goes on.
func TestFullGoesOn(t *testing.T) {
	b := newBoth(t, 100)
	b.add(9, 3)
	b.add(8, 1)
	for i := range most {
		b.push(9, 1+i%200)
	}
	b.push(8, 1)
	for i := range 500 {
		if b.push(9, 77) != api.ErrFull {
			b.fail("it has 2^16 items, and took one more")
		}
		for b.want.length(9) == most {
			b.next()
		}
		if b.push(9, 1+i%300) != api.OK {
			b.fail("there was room for one")
		}
		if b.want.length(8) == 0 {
			b.push(8, 1+i%90)
		}
		b.calls = b.calls[:0]
	}
	b.count(8, 9)
	b.drain()
	for range 3 {
		b.push(9, 100)
	}
	b.drain()
}

// A queue that was full, and is removed and made again, has room for as many.
func TestFullAndRemoved(t *testing.T) {
	s, _ := drr.New(65536)
	for range 2 {
		s.Add(0, 1)
		for i := range most + 1 {
			want := api.OK
			if i == most {
				want = api.ErrFull
			}
			if err := s.Push(api.Item{ID: 0, Size: most}); err != want {
				t.Fatalf("item %d: error %d, want %d", i, err, want)
			}
		}
		if err := s.Remove(0); err != api.OK || s.Len(0) != 0 || s.Waiting() != 0 {
			t.Fatalf("Remove: error %d, and %d items wait", err, s.Waiting())
		}
	}
}

// Promise 17.2: Next.

func TestNextByHand(t *testing.T) {
	// None at all, and none any more.
	by(t, 1, "none; add 0 1; none; push 0 1; next 0 1; none; none; push 0 2; next 0 2; none; wait 0")
	// A Size that is just the deficit, one less, and one more.
	by(t, 5, "add 0 1; add 1 1; push 0 5 5; push 1 5 5; next 0 5; next 1 5; next 0 5; next 1 5; none")
	by(t, 5, "add 0 1; add 1 1; push 0 4 1 1; push 1 5 5; next 0 4 1; next 1 5; next 0 1; next 1 5; none")
	by(t, 5, "add 0 1; add 1 1; push 0 6 4 1; push 1 5 5 5; next 1 5; next 0 6 4; next 1 5; next 0 1; next 1 5; none")
	by(t, 5, "add 0 2; add 1 1; push 0 11 9 1; push 1 5 5 5; next 1 5; next 0 11 9; next 1 5; next 0 1; next 1 5; none")
	// What is left of a deficit is kept for the next turn.
	by(t, 5, "add 0 1; add 1 1; push 0 3 3 3 3; push 1 5 5 5; next 0 3; next 1 5; next 0 3 3; next 1 5; next 0 3; next 1 5; none")
	// It is gone, once the queue is empty.
	by(t, 5, "add 0 1; add 1 1; push 0 1; push 1 5 5 5; next 0 1; push 0 6; next 1 5 5; next 0 6; next 1 5; none")
	by(t, 5, "add 0 9; add 1 1; push 0 1; push 1 5 5 5; next 0 1; push 0 40 5 1; next 1 5; next 0 40 5; next 1 5; next 0 1; next 1 5; none")
	// A queue that is emptied and filled again within its turn is the last one, and is served anew.
	by(t, 5, "add 0 1; add 1 1; push 0 1; push 1 1 1; next 0 1; push 0 5; next 1 1 1; next 0 5; none")
	by(t, 5, "add 0 1; push 0 5; next 0 5; push 0 5; next 0 5; push 0 6; next 0 6; push 0 11; next 0 11; none")
	// A queue that comes in between two turns: whoever is served has its turn still, though nothing is left of it.
	by(t, 3, "add 0 1; add 1 1; push 0 3 3; next 0 3; push 1 3; next 1 3; next 0 3; none")
	by(t, 3, "add 0 1; add 1 1; add 2 1; push 0 3 3; push 1 3 3; next 0 3; push 2 3 3; next 1 3; next 2 3; next 0 3; next 1 3; next 2 3; none")
	by(t, 3, "add 0 1; add 1 1; push 0 2 1 2; next 0 2; push 1 3; next 0 1; next 1 3; next 0 2; none")
	// All have many turns, till one of them is let.
	by(t, 1, "add 0 1; add 1 1; add 2 2; push 0 10; push 1 9; push 2 20; next 1 9; next 0 10; next 2 20; none")
	by(t, 2, "add 0 1; add 1 3; push 0 7 1 1; push 1 24 5 6; next 0 7 1; next 1 24; next 0 1; next 1 5 6; none")
	// Three queues, weights 1, 2 and 3.
	by(t, 10, "add 5 1; add 6 2; add 7 3; push 7 10 10 10 10 10 10; push 6 10 10 10 10; push 5 10 10",
		"next 7 10 10 10; next 6 10 10; next 5 10; next 7 10 10 10; next 6 10 10; next 5 10; none")
}

// One queue alone: all comes out as it came in, whatever its weight, the quantum and the Sizes.
func TestNextOfOneQueue(t *testing.T) {
	for _, quantum := range []int{1, 2, 3, 100, 65535, 65536} {
		for _, weight := range []int{1, 2, 254, 255} {
			b := newBoth(t, quantum)
			b.add(255, weight)
			for _, size := range []int{1, 2, 3, 99, 100, 101, 65535, 65536, 1, 65536} {
				b.push(255, size)
			}
			b.count(255)
			b.drain()
		}
	}
}

// Who comes in first is first, and none is left out: 256 queues, in three orders.
func TestNextOfAllQueues(t *testing.T) {
	for _, step := range []int{1, 85, 255} {
		s, _ := drr.New(10)
		for id := range 256 {
			s.Add(id, 1)
		}
		for i := range 512 {
			s.Push(api.Item{ID: i * step % 256, Size: 10})
		}
		for i := range 512 {
			if x, some := s.Next(); !some || x != (api.Item{ID: i * step % 256, Size: 10}) {
				t.Fatalf("step %d: call %d of Next: %s, want 10 of %d", step, i, told(x, some), i*step%256)
			}
		}
		if x, some := s.Next(); some || x != (api.Item{}) {
			t.Fatalf("Next: %s, want none", told(x, some))
		}
	}
}

// The most turns that one call may need: 256 queues, the least quantum and weight, the greatest Size.
func TestNextOfManyTurns(t *testing.T) {
	s, _ := drr.New(1)
	for id := range 256 {
		s.Add(id, 1)
		s.Push(api.Item{ID: id, Size: 65536})
	}
	for id := range 256 {
		if x, some := s.Next(); !some || x != (api.Item{ID: id, Size: 65536}) {
			t.Fatalf("Next: %s, want 65536 of %d", told(x, some), id)
		}
	}
	// The last one of the round needs one turn less than all others.
	for id := range 255 {
		s.Push(api.Item{ID: id, Size: 65536})
	}
	s.Push(api.Item{ID: 255, Size: 65535})
	for _, id := range []int{255, 0, 1, 2} {
		if x, some := s.Next(); !some || x.ID != id {
			t.Fatalf("Next: %s, want one of %d", told(x, some), id)
		}
	}
}

// The greatest quantum and weight let 255 items of the greatest Size through at a turn.
func TestNextOfGreatTurns(t *testing.T) {
	s, _ := drr.New(65536)
	s.Add(0, 255)
	s.Add(1, 1)
	for range 600 {
		s.Push(api.Item{ID: 0, Size: 65536})
		s.Push(api.Item{ID: 1, Size: 65536})
	}
	for i := range 1000 {
		want := 0
		if i == 255 || i == 511 || i >= 602 {
			want = 1
		}
		if x, some := s.Next(); !some || x != (api.Item{ID: want, Size: 65536}) {
			t.Fatalf("call %d of Next: %s, want 65536 of %d", i, told(x, some), want)
		}
	}
}

// Two queues, with each Size about what a turn is worth and about twice that.
func TestNextAboutTheDeficit(t *testing.T) {
	for _, quantum := range []int{1, 2, 5, 32768} {
		for weight := 1; weight <= 3; weight++ {
			for low := -2; low <= 2; low++ {
				for other := -2; other <= 2; other++ {
					b := newBoth(t, quantum)
					b.add(0, weight)
					b.add(1, 1)
					for turns := range 4 {
						b.push(0, quantum*weight*turns+low)
						b.push(1, quantum+other)
						b.push(0, 1)
						b.push(1, 2)
					}
					b.drain()
				}
			}
		}
	}
}

// Behind some calls of Next one queue comes in, is emptied, or has one more: at each moment of a row of turns.
func TestComesInBetween(t *testing.T) {
	for taken := range 12 {
		for kind := range 5 {
			for size := 1; size <= 9; size++ {
				b := newBoth(t, 4)
				for id := range 4 {
					b.add(id, 1+id%3)
				}
				for i := range 4 {
					b.push(0, 1+i)
					b.push(1, 5-i)
					b.push(2, 3)
				}
				for range taken {
					b.next()
				}
				if kind == 4 {
					b.remove(1)
					b.add(1, 2)
				}
				b.push(kind, size)
				b.next()
				b.push(3, size)
				b.push(kind, 1)
				b.look()
				b.drain()
			}
		}
	}
}

// Promise 17.2: Len and Waiting.

func TestLenAndWaiting(t *testing.T) {
	by(t, 2,
		"len 0 0; len -1 0; len 255 0; len 256 0; wait 0; add 0 1; add 255 1; len 0 0; len 255 0; wait 0",
		"push 0 1 1; push 255 1; len 0 2; len 255 1; len 1 0; len -1 0; len 256 0; wait 3; push 0 0 ErrRange; push 3 1 ErrNone; len 0 2; wait 3",
		"next 0 1; len 0 1; wait 2; next 0 1; len 0 0; wait 1; push 0 1; len 0 1; wait 2; remove 255; len 255 0; wait 1; next 0 1; len 0 0; wait 0; none; wait 0")
	b := newBoth(t, 3)
	for i := range 300 {
		b.add(i, 1+i%4)
		b.push(i/2, 1+i%7)
		b.push(i, 1+i%5)
		if i%3 == 0 {
			b.next()
		}
		if i%10 == 0 {
			b.remove(i / 4)
			b.look()
		}
	}
	b.drain()
	b.look()
}

// Promises 17.1 and 17.2: many calls one behind the other.

// All rows of six calls out of nine kinds, with two queues and a few quanta; then all is taken.
func TestEachRowOfCalls(t *testing.T) {
	const kinds, length = 9, 6
	rows := 1
	for range length {
		rows *= kinds
	}
	for row := range rows {
		b := newBoth(t, 1+row%4)
		b.add(0, 1)
		b.add(1, 2)
		for i, rest := 0, row; i < length; i, rest = i+1, rest/kinds {
			switch rest % kinds {
			case 0:
				b.push(0, 1)
			case 1:
				b.push(0, 3)
			case 2:
				b.push(1, 2)
			case 3:
				b.push(1, 7)
			case 4:
				b.remove(0)
			case 5:
				b.remove(1)
			case 6:
				b.add(0, 2)
			case 7:
				b.add(1, 1)
			default:
				b.next()
			}
		}
		b.count(0, 1)
		b.drain()
	}
}

// mix makes many calls, the next one by chance of a fixed seed.
func mix(t *testing.T, quantum, ids, greatest, weights int, seed uint64) {
	t.Helper()
	b, d := newBoth(t, quantum), dice(seed)
	taken := 0
	for i := range 4000 {
		id := d.below(ids)
		switch d.below(20) {
		case 0:
			b.add(id, 1+d.below(weights))
		case 1:
			b.add(d.of(id, -1, 256, 255), d.of(0, 1, 255, 256, 3))
		case 2:
			if d.below(4) == 0 {
				b.remove(d.of(id, id, -1, 256))
			}
		case 3:
			b.push(d.of(id, id, -1, 256), d.of(0, -1, 65537, 65536, 1))
		case 4, 5, 6, 7, 8, 9, 10:
			b.push(id, 1+d.below(greatest))
		case 11:
			for range d.below(40) {
				b.push(id, 1+d.below(greatest))
			}
		default:
			if _, some := b.next(); some {
				taken++
			}
		}
		b.count(id, d.below(256))
		if i%500 == 0 {
			b.look()
		}
		b.calls = b.calls[max(0, len(b.calls)-60):]
	}
	b.drain()
	if taken < 500 {
		b.fail(strconv.Itoa(taken) + " were taken: these are too few to tell")
	}
}

func TestMixed(t *testing.T) {
	for seed := range uint64(4) {
		for i, quantum := range []int{1, 2, 3, 50, 1000, 65535, 65536} {
			mix(t, quantum, 2, 3*quantum%most+1, 3, seed*100+uint64(i))
			mix(t, quantum, 7, min(most, 20*quantum), 255, seed*100+uint64(i))
			mix(t, quantum, 256, min(most, 5*quantum), 3, seed*100+uint64(i))
		}
		mix(t, 700, 20, most, 2, seed)
	}
}

// Promise 17.3.

// share is two queues that have items all the time, beside others that come and go.
type share struct {
	t       *testing.T
	s       *drr.Sched
	d       *dice
	quantum int
	weights [2]int
	sizes   [2]int
	// waits are the Sizes of all that came in and was not taken, of each queue.
	waits map[int][]int
	// sent is how many bytes were taken, and longest the greatest Size that came in, of the two.
	sent    [2]int
	longest int
}

// newShare are the two queues 0 and 1, with some items each.
func newShare(t *testing.T, quantum int, weights, sizes [2]int, seed uint64) *share {
	t.Helper()
	s, err := drr.New(quantum)
	if err != api.OK {
		t.Fatalf("New(%d): %d, want OK", quantum, err)
	}
	d := dice(seed)
	f := &share{t: t, s: s, d: &d, quantum: quantum, weights: weights, sizes: sizes, waits: map[int][]int{}}
	for id, weight := range weights {
		if err := s.Add(id, weight); err != api.OK {
			t.Fatalf("Add(%d, %d): %d, want OK", id, weight, err)
		}
	}
	f.fill()
	return f
}

func (f *share) push(id, size int) {
	if err := f.s.Push(api.Item{ID: id, Size: size}); err != api.OK {
		f.t.Fatalf("Push(%d, %d): %d, want OK", id, size, err)
	}
	f.waits[id] = append(f.waits[id], size)
}

// fill sees to it that neither of the two is ever empty.
func (f *share) fill() {
	for id, greatest := range f.sizes {
		for len(f.waits[id]) < 2 {
			// As long as can be, or any.
			size := f.d.of(greatest, 1+f.d.below(greatest))
			f.longest = max(f.longest, size)
			f.push(id, size)
		}
	}
}

// others lets some other queue come, go, or have something more.
func (f *share) others() {
	id := 2 + f.d.below(6)
	switch f.d.below(12) {
	case 0:
		if f.s.Add(id, 1+f.d.below(9)) == api.OK {
			f.waits[id] = nil
		}
	case 1:
		if f.s.Remove(id) == api.OK {
			delete(f.waits, id)
		}
	case 2, 3, 4:
		if _, there := f.waits[id]; there {
			f.push(id, 1+f.d.below(min(most, 2000*f.quantum)))
		}
	}
}

// next takes one item, which is the first one that waits of its queue.
func (f *share) next() {
	x, some := f.s.Next()
	if !some || len(f.waits[x.ID]) == 0 || f.waits[x.ID][0] != x.Size {
		f.t.Fatalf("Next: %s, of which these wait: %v", told(x, some), f.waits[x.ID])
	}
	f.waits[x.ID] = f.waits[x.ID][1:]
	if x.ID < 2 {
		f.sent[x.ID] += x.Size
	}
}

// run takes many items, and some of both at least, and holds what was sent of both against one another, between any two moments.
func (f *share) run(many int) {
	least, greatest := 0, 0
	for i := 0; i < many || f.sent[0] == 0 || f.sent[1] == 0; i++ {
		f.others()
		f.next()
		f.fill()
		apart := f.sent[0]*f.weights[1] - f.sent[1]*f.weights[0]
		least, greatest = min(least, apart), max(greatest, apart)
		if bound := (f.quantum + 2*f.longest) * f.weights[0] * f.weights[1]; greatest-least > bound {
			f.t.Fatalf("quantum %d, weights %v, sizes %v: %v were sent, which parts by %d between two moments, want %d at most",
				f.quantum, f.weights, f.sizes, f.sent, greatest-least, bound)
		}
	}
	all := 0
	for id, l := range f.waits {
		all += len(l)
		if f.s.Len(id) != len(l) {
			f.t.Fatalf("Len(%d): %d, want %d", id, f.s.Len(id), len(l))
		}
	}
	if f.s.Waiting() != all {
		f.t.Fatalf("Waiting: %d, want %d", f.s.Waiting(), all)
	}
}

func TestFair(t *testing.T) {
	seed := uint64(0)
	for _, quantum := range []int{1, 40, 1500, 65536} {
		for _, weights := range [][2]int{{1, 1}, {1, 2}, {1, 3}, {3, 2}, {7, 5}, {1, 255}, {254, 255}, {255, 1}, {100, 100}} {
			for _, sizes := range [][2]int{{1, 1}, {1, 100}, {100, 1}, {77, 78}, {1500, 1500}, {1500, 40}, {65536, 300}, {300, 65536}, {65536, 65536}} {
				seed++
				// Some want more turns, or have more items in one turn, than there is time for.
				if max(sizes[0], sizes[1]) <= 2000*quantum && quantum*max(weights[0], weights[1]) <= 200000*min(sizes[0], sizes[1]) {
					newShare(t, quantum, weights, sizes, seed).run(2000)
				}
			}
		}
	}
}

// In the long run each has its share: what was sent of two queues goes as their weights.
func TestFairInTheLongRun(t *testing.T) {
	for _, weights := range [][2]int{{1, 1}, {1, 3}, {2, 3}, {5, 1}} {
		s, _ := drr.New(500)
		d, sent := dice(9), [2]int{}
		for id, weight := range weights {
			s.Add(id, weight)
		}
		for range 200000 {
			for id := range weights {
				for s.Len(id) < 2 {
					s.Push(api.Item{ID: id, Size: 1 + d.below(200+1000*id)})
				}
			}
			x, _ := s.Next()
			sent[x.ID] += x.Size
		}
		if many, wants := sent[0]*weights[1], sent[1]*weights[0]; many*1000 < wants*999 || many*999 > wants*1000 {
			t.Errorf("weights %v: %v were sent", weights, sent)
		}
	}
}

// What is taken is what came in, each once, each queue's in order, though queues are emptied again and again.
func TestAllComesOutOnce(t *testing.T) {
	s, _ := drr.New(300)
	var in, out [256][]int
	for id := range 256 {
		s.Add(id, 1+id%5)
	}
	d, many := dice(77), 0
	take := func() bool {
		x, some := s.Next()
		if some {
			out[x.ID] = append(out[x.ID], x.Size)
		}
		return some
	}
	for range 30000 {
		id := d.below(256)
		in[id] = append(in[id], 1+d.below(3000))
		if err := s.Push(api.Item{ID: id, Size: in[id][len(in[id])-1]}); err != api.OK {
			t.Fatalf("Push: %d, want OK", err)
		}
		many++
		for d.below(2) == 0 {
			take()
		}
	}
	for take() {
	}
	for id := range 256 {
		if !slices.Equal(in[id], out[id]) {
			t.Fatalf("queue %d: %d came in, %d came out, or others", id, len(in[id]), len(out[id]))
		}
	}
	if s.Waiting() != 0 || many == 0 {
		t.Fatalf("%d wait still", s.Waiting())
	}
}

// R5: what is answered hangs on what was done to the same queues alone.

func TestTheSameEachTime(t *testing.T) {
	run := func() []api.Item {
		s, _ := drr.New(17)
		d := dice(3)
		var l []api.Item
		for i := range 2000 {
			s.Add(d.below(256), 1+d.below(255))
			s.Push(api.Item{ID: d.below(256), Size: 1 + d.below(9000)})
			s.Push(api.Item{ID: d.below(256), Size: 1 + d.below(9000)})
			if i%50 == 0 {
				s.Remove(d.below(256))
			}
			x, _ := s.Next()
			l = append(l, x)
		}
		return l
	}
	first := run()
	for range 20 {
		if !slices.Equal(first, run()) {
			t.Fatal("the same calls were answered otherwise")
		}
	}
}

func TestTwoShareNothing(t *testing.T) {
	first, second := newBoth(t, 5), newBoth(t, 5)
	for i := range 200 {
		first.add(i%9, 1+i%3)
		first.push(i%9, 1+i%11)
		second.count(i % 9)
		if i%2 == 0 {
			second.add(i%7, 2)
			second.push(i%7, 1+i%6)
			second.next()
		}
		first.next()
		second.remove(i % 13)
	}
	first.look()
	second.look()
	first.drain()
	second.look()
	second.drain()
}

// R1: on nil.

func TestNil(t *testing.T) {
	var none *drr.Sched
	numbers := append(noIDs(), 0, 1, 2, 255, 65537)
	for _, a := range numbers {
		for _, b := range numbers {
			if err := none.Add(a, b); err != api.ErrNil {
				t.Fatalf("Add(%d, %d): %d, want ErrNil", a, b, err)
			}
			if err := none.Push(api.Item{ID: a, Size: b}); err != api.ErrNil {
				t.Fatalf("Push(%d, %d): %d, want ErrNil", a, b, err)
			}
		}
		if err := none.Remove(a); err != api.ErrNil {
			t.Fatalf("Remove(%d): %d, want ErrNil", a, err)
		}
		if got := none.Len(a); got != 0 {
			t.Fatalf("Len(%d): %d, want 0", a, got)
		}
		if x, some := none.Next(); some || x != (api.Item{}) {
			t.Fatalf("Next: %s, want none", told(x, some))
		}
		if got := none.Waiting(); got != 0 {
			t.Fatalf("Waiting: %d, want 0", got)
		}
	}
}
