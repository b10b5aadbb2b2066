package fsm_test

import (
	"math"
	"testing"

	"lightship/api"
	"lightship/fsm"
)

// Promise 24.1: Next.

func wantNext(t *testing.T, state, event, next int, err api.Errno) {
	if got, e := fsm.Next(state, event); got != next || e != err {
		t.Helper()
		t.Errorf("Next(%d, %d): %d, %d, want %d, %d", state, event, got, e, next, err)
	}
}

func wantMay(t *testing.T, state, kind int, err api.Errno) {
	if e := fsm.May(state, kind); e != err {
		t.Helper()
		t.Errorf("May(%d, %d): %d, want %d", state, kind, e, err)
	}
}

// allNext are all answers, written out: by states downwards, and by events.
func allNext() [6][6]answer {
	ok := func(state int) answer { return answer{state, api.OK} }
	no := func(err api.Errno) answer { return answer{0, err} }
	return [6][6]answer{
		api.Idle: {
			api.EvOpen: ok(api.Opened), api.EvClose: no(api.ErrNone), api.EvFin: no(api.ErrNone),
			api.EvAbort: no(api.ErrNone), api.EvRst: no(api.ErrNone), api.EvForget: no(api.ErrState),
		},
		api.Opened: {
			api.EvOpen: no(api.ErrTwice), api.EvClose: ok(api.Local), api.EvFin: ok(api.Remote),
			api.EvAbort: ok(api.Broken), api.EvRst: ok(api.Broken), api.EvForget: no(api.ErrState),
		},
		api.Local: {
			api.EvOpen: no(api.ErrTwice), api.EvClose: no(api.ErrClosed), api.EvFin: ok(api.Shut),
			api.EvAbort: ok(api.Broken), api.EvRst: ok(api.Broken), api.EvForget: no(api.ErrState),
		},
		api.Remote: {
			api.EvOpen: no(api.ErrTwice), api.EvClose: ok(api.Shut), api.EvFin: no(api.ErrTwice),
			api.EvAbort: ok(api.Broken), api.EvRst: ok(api.Broken), api.EvForget: no(api.ErrState),
		},
		api.Shut: {
			api.EvOpen: no(api.ErrTwice), api.EvClose: no(api.ErrClosed), api.EvFin: no(api.ErrTwice),
			api.EvAbort: no(api.ErrState), api.EvRst: no(api.ErrState), api.EvForget: ok(api.Idle),
		},
		api.Broken: {
			api.EvOpen: no(api.ErrTwice), api.EvClose: no(api.ErrReset), api.EvFin: no(api.ErrReset),
			api.EvAbort: no(api.ErrState), api.EvRst: no(api.ErrState), api.EvForget: ok(api.Idle),
		},
	}
}

func TestNext(t *testing.T) {
	for state, line := range allNext() {
		for event, want := range line {
			wantNext(t, state, event, want.state, want.err)
		}
	}
}

// The numbers themselves, as the issue and the chapter name them: a state's, an event's, an error's.
func TestNextByNumbers(t *testing.T) {
	all := [6][6][2]int{
		{{1, 0}, {0, 7}, {0, 7}, {0, 7}, {0, 7}, {0, 10}},
		{{0, 8}, {2, 0}, {3, 0}, {5, 0}, {5, 0}, {0, 10}},
		{{0, 8}, {0, 11}, {4, 0}, {5, 0}, {5, 0}, {0, 10}},
		{{0, 8}, {4, 0}, {0, 8}, {5, 0}, {5, 0}, {0, 10}},
		{{0, 8}, {0, 11}, {0, 8}, {0, 10}, {0, 10}, {0, 0}},
		{{0, 8}, {0, 12}, {0, 12}, {0, 10}, {0, 10}, {0, 0}},
	}
	for state, line := range all {
		for event, want := range line {
			wantNext(t, state, event, want[0], api.Errno(want[1]))
		}
	}
}

func TestNextExample(t *testing.T) {
	wantNext(t, api.Opened, api.EvClose, api.Local, api.OK)
}

func TestNextOfNone(t *testing.T) {
	for _, none := range []int{-1, 6, 7, math.MaxInt, math.MinInt} {
		for _, is := range []int{0, 1, 2, 3, 4, 5, -1, 6, 7, math.MaxInt, math.MinInt} {
			wantNext(t, none, is, 0, api.ErrArg)
			wantNext(t, is, none, 0, api.ErrArg)
		}
	}
}

func TestNextOfNoneFarAway(t *testing.T) {
	for _, none := range noStates() {
		for _, event := range append(events(), -1, 6, none) {
			wantNext(t, none, event, 0, api.ErrArg)
		}
		for _, state := range append(states(), -1, 6, none) {
			wantNext(t, state, none, 0, api.ErrArg)
		}
	}
	for _, state := range farInts() {
		for _, event := range farInts() {
			wantNext(t, state, event, 0, api.ErrArg)
		}
	}
}

// Each one against the chapter's words, of which each line is of use.
func TestNextByTheWords(t *testing.T) {
	for state := -10; state <= 20; state++ {
		for event := -10; event <= 20; event++ {
			want := plain(state, event)
			wantNext(t, state, event, want.state, want.err)
		}
	}
}

// Whatever was asked ahead, the same is answered.
func TestNextTwice(t *testing.T) {
	all := allNext()
	for range 3 {
		for state, line := range all {
			for event, want := range line {
				for range 2 {
					wantNext(t, state, event, want.state, want.err)
				}
				wantNext(t, event, 6, 0, api.ErrArg)
			}
		}
	}
	for first := range 36 {
		for second := range 36 {
			for _, both := range []int{first, second, first} {
				state, event := both/6, both%6
				want := all[state][event]
				wantNext(t, state, event, want.state, want.err)
			}
		}
	}
}

// Promise 24.1: rows of events, from Idle on.

// wantRow: behind each event the stream has that state.
func wantRow(t *testing.T, eventsAndStates ...[2]int) {
	t.Helper()
	r := row{t: t}
	for _, step := range eventsAndStates {
		r.event(step[0])
		if r.got != step[1] {
			t.Fatalf("%s: state %d, want %d", r.told(), r.got, step[1])
		}
	}
}

func TestRowsByHand(t *testing.T) {
	wantRow(t, [2]int{api.EvOpen, api.Opened}, [2]int{api.EvClose, api.Local}, [2]int{api.EvFin, api.Shut},
		[2]int{api.EvForget, api.Idle}, [2]int{api.EvOpen, api.Opened})
	wantRow(t, [2]int{api.EvOpen, api.Opened}, [2]int{api.EvFin, api.Remote}, [2]int{api.EvClose, api.Shut},
		[2]int{api.EvForget, api.Idle}, [2]int{api.EvForget, api.Idle})
	wantRow(t, [2]int{api.EvOpen, api.Opened}, [2]int{api.EvAbort, api.Broken}, [2]int{api.EvForget, api.Idle})
	wantRow(t, [2]int{api.EvOpen, api.Opened}, [2]int{api.EvClose, api.Local}, [2]int{api.EvRst, api.Broken},
		[2]int{api.EvClose, api.Broken}, [2]int{api.EvFin, api.Broken}, [2]int{api.EvForget, api.Idle})
	wantRow(t, [2]int{api.EvOpen, api.Opened}, [2]int{api.EvFin, api.Remote}, [2]int{api.EvAbort, api.Broken},
		[2]int{api.EvRst, api.Broken}, [2]int{api.EvOpen, api.Broken}, [2]int{api.EvForget, api.Idle})
}

// An event that is answered an error leaves the state, however often it comes.
func TestErrorsLeaveTheState(t *testing.T) {
	wantRow(t, [2]int{api.EvClose, api.Idle}, [2]int{api.EvFin, api.Idle}, [2]int{api.EvAbort, api.Idle},
		[2]int{api.EvRst, api.Idle}, [2]int{api.EvForget, api.Idle}, [2]int{6, api.Idle}, [2]int{-1, api.Idle},
		[2]int{api.EvOpen, api.Opened}, [2]int{api.EvOpen, api.Opened}, [2]int{api.EvForget, api.Opened}, [2]int{6, api.Opened},
		[2]int{api.EvClose, api.Local}, [2]int{api.EvClose, api.Local}, [2]int{api.EvOpen, api.Local}, [2]int{api.EvForget, api.Local},
		[2]int{api.EvFin, api.Shut}, [2]int{api.EvFin, api.Shut}, [2]int{api.EvClose, api.Shut}, [2]int{api.EvOpen, api.Shut},
		[2]int{api.EvAbort, api.Shut}, [2]int{api.EvRst, api.Shut}, [2]int{math.MaxInt, api.Shut}, [2]int{math.MinInt, api.Shut},
		[2]int{api.EvForget, api.Idle})
}

// Each row of six events, of which one may be none.
func TestEachRowOfEvents(t *testing.T) {
	const sides, long = 7, 6
	all := 1
	for range long {
		all *= sides
	}
	for n := range all {
		r := row{t: t}
		for rest := n; len(r.events) < long; rest /= sides {
			r.event(rest % sides)
		}
	}
}

// Each state is come to, and each event happens in each, in rows of many.
func TestLongRows(t *testing.T) {
	var seen [6][6]int
	for seed := range 40 {
		d := dice(seed)
		r := row{t: t}
		for range 500 {
			event := d.roll(8) - 1
			if event >= 0 && event < 6 {
				seen[r.got][event]++
			}
			r.event(event)
		}
	}
	for state, line := range seen {
		for event, times := range line {
			if times < 50 {
				t.Errorf("event %d of state %d: %d times", event, state, times)
			}
		}
	}
}

// A stream is opened once, and forgotten once, by turns; each side ends once between, or it is broken once.
func TestEventsByTurns(t *testing.T) {
	for seed := range 20 {
		d := dice(seed + 100)
		state, opened, ended, broken := api.Idle, false, 0, 0
		for range 1000 {
			event := d.roll(6)
			next, err := fsm.Next(state, event)
			if err != api.OK {
				continue
			}
			state = next
			switch event {
			case api.EvOpen:
				if opened {
					t.Fatalf("seed %d: opened twice", seed)
				}
				opened, ended, broken = true, 0, 0
			case api.EvForget:
				if !opened || (ended < 2 && broken == 0) {
					t.Fatalf("seed %d: forgotten, opened %t, ended %d, broken %d", seed, opened, ended, broken)
				}
				opened = false
			case api.EvClose, api.EvFin:
				if ended++; !opened || ended > 2 || broken > 0 {
					t.Fatalf("seed %d: ended %d, opened %t, broken %d", seed, ended, opened, broken)
				}
			default:
				if broken++; !opened || ended == 2 || broken > 1 {
					t.Fatalf("seed %d: broken %d, opened %t, ended %d", seed, broken, opened, ended)
				}
			}
		}
	}
}

// Promise 24.2: May.

// allMay are all answers, written out: by states downwards, and by kinds.
func allMay() [6][6]api.Errno {
	return [6][6]api.Errno{
		api.Idle: {
			api.CallOpen: api.OK, api.CallWrite: api.ErrNone, api.CallRead: api.ErrNone,
			api.CallClose: api.ErrNone, api.CallAbort: api.ErrNone,
		},
		api.Opened: {
			api.CallOpen: api.ErrTwice, api.CallWrite: api.OK, api.CallRead: api.OK,
			api.CallClose: api.OK, api.CallAbort: api.OK,
		},
		api.Local: {
			api.CallOpen: api.ErrTwice, api.CallWrite: api.ErrClosed, api.CallRead: api.OK,
			api.CallClose: api.ErrClosed, api.CallAbort: api.OK,
		},
		api.Remote: {
			api.CallOpen: api.ErrTwice, api.CallWrite: api.OK, api.CallRead: api.OK,
			api.CallClose: api.OK, api.CallAbort: api.OK,
		},
		api.Shut: {
			api.CallOpen: api.ErrTwice, api.CallWrite: api.ErrClosed, api.CallRead: api.OK,
			api.CallClose: api.ErrClosed, api.CallAbort: api.ErrClosed,
		},
		api.Broken: {
			api.CallOpen: api.ErrTwice, api.CallWrite: api.ErrReset, api.CallRead: api.ErrReset,
			api.CallClose: api.ErrReset, api.CallAbort: api.ErrReset,
		},
	}
}

func TestMay(t *testing.T) {
	for state, line := range allMay() {
		for _, kind := range kinds() {
			wantMay(t, state, kind, line[kind])
		}
	}
}

// The numbers themselves: of each state an error for each of the kinds 1 to 5.
func TestMayByNumbers(t *testing.T) {
	all := [6][5]api.Errno{
		{0, 7, 7, 7, 7},
		{8, 0, 0, 0, 0},
		{8, 11, 0, 11, 0},
		{8, 0, 0, 0, 0},
		{8, 11, 0, 11, 11},
		{8, 12, 12, 12, 12},
	}
	for state, line := range all {
		for i, want := range line {
			wantMay(t, state, 1+i, want)
		}
	}
}

func TestMayOfNone(t *testing.T) {
	states, kinds := []int{0, 1, 2, 3, 4, 5}, []int{1, 2, 3, 4, 5}
	noStates, noKinds := []int{-1, 6, math.MaxInt, math.MinInt}, []int{-1, 0, api.CallStop, 7, math.MaxInt, math.MinInt}
	for _, state := range noStates {
		for _, kind := range append(kinds, noKinds...) {
			wantMay(t, state, kind, api.ErrArg)
		}
	}
	for _, kind := range noKinds {
		for _, state := range append(states, noStates...) {
			wantMay(t, state, kind, api.ErrArg)
		}
	}
}

func TestMayOfNoneFarAway(t *testing.T) {
	for _, state := range noStates() {
		for _, kind := range append(kinds(), 0, 6, state) {
			wantMay(t, state, kind, api.ErrArg)
		}
	}
	for _, kind := range noKinds() {
		for _, state := range append(states(), -1, 6, kind) {
			wantMay(t, state, kind, api.ErrArg)
		}
	}
	for _, state := range farInts() {
		for _, kind := range farInts() {
			wantMay(t, state, kind, api.ErrArg)
		}
	}
}

// Whatever was asked ahead, the same is answered.
func TestMayTwice(t *testing.T) {
	all := allMay()
	for first := range 30 {
		for second := range 30 {
			for _, both := range []int{first, second, second, first} {
				state, kind := both/5, 1+both%5
				wantMay(t, state, kind, all[state][kind])
				wantMay(t, state, api.CallStop, api.ErrArg)
			}
		}
	}
}

// A call to open or to close may be made just where its event may be, and is refused by the same error; so is one to abort, but for the error of a stream that is done.
func TestCallsAndEvents(t *testing.T) {
	for _, state := range states() {
		_, open := fsm.Next(state, api.EvOpen)
		wantMay(t, state, api.CallOpen, open)
		_, end := fsm.Next(state, api.EvClose)
		wantMay(t, state, api.CallClose, end)
		wantMay(t, state, api.CallWrite, end)
		_, abort := fsm.Next(state, api.EvAbort)
		if may := fsm.May(state, api.CallAbort); (may == api.OK) != (abort == api.OK) {
			t.Errorf("state %d: May to abort %d, Next %d", state, may, abort)
		}
	}
}

// Promise 24.2: Done.

func TestDone(t *testing.T) {
	all := [6]bool{api.Shut: true, api.Broken: true}
	for range 2 {
		for state, want := range all {
			if got := fsm.Done(state); got != want {
				t.Errorf("Done(%d): %t, want %t", state, got, want)
			}
		}
	}
	if !fsm.Done(4) || !fsm.Done(5) {
		t.Error("4 and 5 are done")
	}
}

func TestDoneOfNone(t *testing.T) {
	for _, state := range append(noStates(), -1, 6, 7, math.MaxInt, math.MinInt) {
		if fsm.Done(state) {
			t.Errorf("Done(%d): true, want false", state)
		}
	}
}

// A stream is forgotten just where it is done.
func TestDoneIsForgotten(t *testing.T) {
	for _, state := range states() {
		if _, err := fsm.Next(state, api.EvForget); fsm.Done(state) != (err == api.OK) {
			t.Errorf("state %d: Done %t, EvForget %d", state, fsm.Done(state), err)
		}
	}
}

// Nothing is kept: streams at once, in goroutines, go the same ways.
func TestManyAtOnce(t *testing.T) {
	const many = 8
	ends := make(chan int)
	for range many {
		go func() {
			d, state, sum := dice(7), api.Idle, 0
			for range 2000 {
				next, err := fsm.Next(state, d.roll(6))
				if err == api.OK {
					state = next
				}
				sum = sum*31 + state + int(fsm.May(state, 1+d.roll(5)))
			}
			ends <- sum
		}()
	}
	first := <-ends
	for range many - 1 {
		if sum := <-ends; sum != first {
			t.Error("two streams to which the same was done are not the same")
		}
	}
}

// No call takes memory that it does not give back.
func TestNothingIsKept(t *testing.T) {
	if n := testing.AllocsPerRun(1000, func() {
		for state := -1; state < 7; state++ {
			for event := -1; event < 7; event++ {
				fsm.Next(state, event)
				fsm.May(state, event)
				fsm.Done(state)
			}
		}
	}); n != 0 {
		t.Errorf("64 calls of each take memory %v times", n)
	}
}
