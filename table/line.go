package table

import (
	"sync"

	"lightship/api"
)

// line is what all parts have in common: how many entries there are, and those that are not ready, in the order in which they were made.
// Each call is one step, so that nobody sees half of it.
type line struct {
	guard      sync.Mutex
	room, many int
	// ends is no entry: behind it is the first one, ahead of it the last one.
	ends *entry
}

// newLine is a line of no entries, with room for so many.
func newLine(room int) line {
	ends := &entry{}
	ends.ahead, ends.behind = ends, ends
	return line{room: room, ends: ends}
}

// enter counts e, which is the last one in line, unless it is ready; whether there is room for it.
func (l *line) enter(e *entry) bool {
	l.guard.Lock()
	defer l.guard.Unlock()
	if l.many == l.room {
		return false
	}
	l.many++
	if !e.ready() {
		e.ahead, e.behind = l.ends.ahead, l.ends
		e.ahead.behind, e.behind.ahead = e, e
	}
	return true
}

// leave: e, which is ready by now, is no longer in line.
func (l *line) leave(e *entry) {
	l.guard.Lock()
	defer l.guard.Unlock()
	e.unlink()
}

// forget counts those entries no longer; they are not in line any more.
func (l *line) forget(gone ...*entry) {
	l.guard.Lock()
	defer l.guard.Unlock()
	l.many -= len(gone)
	for _, e := range gone {
		if !e.ready() {
			e.unlink()
		}
	}
}

// oldest is the key of the first one in line, and whether there is one.
func (l *line) oldest() (api.Key, bool) {
	l.guard.Lock()
	defer l.guard.Unlock()
	if l.ends.behind == l.ends {
		return api.Key{}, false
	}
	return l.ends.behind.key, true
}

// count is how many entries there are.
func (l *line) count() int {
	l.guard.Lock()
	defer l.guard.Unlock()
	return l.many
}

// unlink lets e's neighbours in line be neighbours of one another.
func (e *entry) unlink() {
	e.ahead.behind, e.behind.ahead = e.behind, e.ahead
	// An entry that is ready may stay for long, and would keep those that are gone.
	e.ahead, e.behind = nil, nil
}
