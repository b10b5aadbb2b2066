package fsm_test

import (
	"math"
	"slices"
	"strconv"
	"strings"
	"testing"

	"lightship/api"
	"lightship/fsm"
)

// states are all that there are, and events and kinds likewise.
func states() []int {
	return []int{api.Idle, api.Opened, api.Local, api.Remote, api.Shut, api.Broken}
}

func events() []int {
	return []int{api.EvOpen, api.EvClose, api.EvFin, api.EvAbort, api.EvRst, api.EvForget}
}

func kinds() []int {
	return []int{api.CallOpen, api.CallWrite, api.CallRead, api.CallClose, api.CallAbort}
}

// farInts are numbers that no list has: the ends of the integer kinds, and what of them falls on a low number where a part of it is cut off.
func farInts() []int {
	l := []int{math.MinInt, math.MinInt + 1, math.MaxInt - 1, math.MaxInt}
	for _, bits := range []int{8, 16, 31, 32, 33, 62} {
		for low := -7; low <= 7; low++ {
			l = append(l, 1<<bits+low, -1<<bits+low)
		}
	}
	return l
}

// noStates are numbers of no state, which are of no event, too; noKinds are of no kind of calls.
func noStates() []int {
	l := farInts()
	for i := 1; i <= 300; i++ {
		l = append(l, -i, 5+i)
	}
	return l
}

func noKinds() []int { return append(noStates(), 0) }

// answer is what Next answers.
type answer struct {
	state int
	err   api.Errno
}

// rule is a line of the chapter: of those states, at that event, the answer.
type rule struct {
	event int
	of    []int
	want  answer
}

// rules are the chapter's words, in their order: the first one that fits holds.
func rules() []rule {
	l := []rule{
		{api.EvOpen, []int{api.Idle}, answer{api.Opened, api.OK}},
		{api.EvOpen, states(), answer{0, api.ErrTwice}},
		{api.EvForget, []int{api.Shut, api.Broken}, answer{api.Idle, api.OK}},
		{api.EvForget, states(), answer{0, api.ErrState}},
		{api.EvClose, []int{api.Opened}, answer{api.Local, api.OK}},
		{api.EvClose, []int{api.Remote}, answer{api.Shut, api.OK}},
		{api.EvClose, []int{api.Idle}, answer{0, api.ErrNone}},
		{api.EvClose, []int{api.Broken}, answer{0, api.ErrReset}},
		{api.EvClose, states(), answer{0, api.ErrClosed}},
		{api.EvFin, []int{api.Opened}, answer{api.Remote, api.OK}},
		{api.EvFin, []int{api.Local}, answer{api.Shut, api.OK}},
		{api.EvFin, []int{api.Idle}, answer{0, api.ErrNone}},
		{api.EvFin, []int{api.Broken}, answer{0, api.ErrReset}},
		{api.EvFin, states(), answer{0, api.ErrTwice}},
	}
	for _, event := range []int{api.EvAbort, api.EvRst} {
		l = append(l,
			rule{event, []int{api.Idle}, answer{0, api.ErrNone}},
			rule{event, []int{api.Shut, api.Broken}, answer{0, api.ErrState}},
			rule{event, states(), answer{api.Broken, api.OK}})
	}
	return l
}

// plain is what the chapter's words ask of Next.
func plain(state, event int) answer {
	if !slices.Contains(states(), state) || !slices.Contains(events(), event) {
		return answer{0, api.ErrArg}
	}
	for _, r := range rules() {
		if r.event == event && slices.Contains(r.of, state) {
			return r.want
		}
	}
	panic("the chapter says nothing")
}

// row is a stream's state, the same by the chapter's words, and the events so far.
type row struct {
	t         *testing.T
	got, want int
	events    []int
}

// told is the events so far, the last ones alone if there were many.
func (r *row) told() string {
	var l []string
	for _, e := range r.events[max(0, len(r.events)-30):] {
		l = append(l, strconv.Itoa(e))
	}
	return "from Idle on, events " + strings.Join(l, ", ")
}

// event makes one happen: where it is answered an error, the state stays.
func (r *row) event(event int) {
	r.events = append(r.events, event)
	next, err := fsm.Next(r.got, event)
	want := plain(r.want, event)
	if (answer{next, err}) != want {
		r.t.Helper()
		r.t.Fatalf("%s: Next(%d, %d): %d, %d, want %d, %d", r.told(), r.got, event, next, err, want.state, want.err)
	}
	if err == api.OK {
		r.got = next
	}
	if want.err == api.OK {
		r.want = want.state
	}
	if r.got != r.want {
		r.t.Helper()
		r.t.Fatalf("%s: state %d, want %d", r.told(), r.got, r.want)
	}
}

// dice is a row of numbers that look like chance, and are the same each time.
type dice uint64

func (d *dice) roll(sides int) int {
	*d = *d*6364136223846793005 + 1442695040888963407
	return int(uint64(*d)>>33) % sides
}
