package table_test

import (
	"math"
	"os"
	"runtime"
	"slices"
	"strconv"
	"strings"
	"sync"
	"testing"
	"time"

	"lightship/api"
	"lightship/table"
)

// mostParts is how many parts there may be, and most how many entries.
const (
	mostParts = 64
	most      = 65536
)

// TestMain ends the tests, if a call does not end.
func TestMain(m *testing.M) {
	time.AfterFunc(3*time.Minute, func() { panic("a call does not end") })
	os.Exit(m.Run())
}

// plainEntry is an entry that goes by the chapter's words: its shards stand by rising Index.
type plainEntry struct {
	key    api.Key
	need   int
	shards []api.Shard
}

// plain is a table that goes by the chapter's words, against which the others are held: entries in the order in which they were made, in no parts.
type plain struct {
	room    int
	entries []*plainEntry
}

// at is the place of k's entry, or -1.
func (p *plain) at(k api.Key) int {
	return slices.IndexFunc(p.entries, func(e *plainEntry) bool { return e.key == k })
}

func (p *plain) put(k api.Key, need int, x api.Shard) int {
	if need < 1 || need > 32 {
		return 5
	}
	if x.Index < 0 || x.Index > 254 {
		return 5
	}
	place := p.at(k)
	if place < 0 {
		if len(p.entries) == p.room {
			return 2
		}
		p.entries = append(p.entries, &plainEntry{k, need, []api.Shard{x}})
		if need == 1 {
			return 3
		}
		return 0
	}
	e := p.entries[place]
	if len(e.shards) == e.need {
		return 1
	}
	if e.need != need {
		return 4
	}
	for _, s := range e.shards {
		if len(s.Body) != len(x.Body) {
			return 4
		}
	}
	for _, s := range e.shards {
		if s.Index == x.Index && s.Body == x.Body {
			return 1
		}
		if s.Index == x.Index {
			return 4
		}
	}
	e.shards = append(e.shards, x)
	slices.SortFunc(e.shards, func(a, b api.Shard) int { return a.Index - b.Index })
	if len(e.shards) == e.need {
		return 3
	}
	return 0
}

func (p *plain) get(k api.Key) ([]api.Shard, bool) {
	place := p.at(k)
	if place < 0 {
		return nil, false
	}
	return p.entries[place].shards, true
}

func (p *plain) take(k api.Key) ([]api.Shard, bool) {
	l, has := p.get(k)
	if has {
		p.entries = slices.Delete(p.entries, p.at(k), p.at(k)+1)
	}
	return l, has
}

func (p *plain) drop(stream int) int {
	many := 0
	var others []*plainEntry
	for _, e := range p.entries {
		if e.key.Stream == stream {
			many++
		} else {
			others = append(others, e)
		}
	}
	p.entries = others
	return many
}

func (p *plain) oldest() (api.Key, bool) {
	for _, e := range p.entries {
		if len(e.shards) < e.need {
			return e.key, true
		}
	}
	return api.Key{}, false
}

// both are a table and the plain one that it is held against, to which the same is done; and what was done so far.
type both struct {
	t     *testing.T
	parts int
	got   *table.Table
	want  *plain
	calls []string
}

func newTable(t *testing.T, parts, room int) *table.Table {
	t.Helper()
	got, err := table.New(parts, room)
	if got == nil || err != api.OK {
		t.Fatalf("New(%d, %d): %v, %d, want a table, OK", parts, room, got, err)
	}
	return got
}

func newBoth(t *testing.T, parts, room int) *both {
	t.Helper()
	return &both{t: t, parts: parts, got: newTable(t, parts, room), want: &plain{room: room}}
}

// note keeps what was done, the last calls alone.
func (b *both) note(call string, arguments ...string) {
	b.calls = append(b.calls[max(0, len(b.calls)-60):], call+"("+strings.Join(arguments, ", ")+")")
}

// fail ends the test, and tells what was done, the last calls alone if there were many.
func (b *both) fail(what string) {
	b.t.Helper()
	b.t.Fatalf("New(%d, %d), at last %s: %s", b.parts, b.want.room, strings.Join(b.calls, "; "), what)
}

func (b *both) put(k api.Key, need int, x api.Shard) int {
	b.note("Put", keyText(k), strconv.Itoa(need), strconv.Itoa(x.Index), strconv.Quote(x.Body))
	got, want := b.got.Put(k, need, x), b.want.put(k, need, x)
	if got != want {
		b.fail(strconv.Itoa(got) + ", want " + strconv.Itoa(want))
	}
	return got
}

func (b *both) get(k api.Key) {
	b.note("Get", keyText(k))
	got, has := b.got.Get(k)
	want, had := b.want.get(k)
	if !slices.Equal(got, want) || has != had {
		b.fail(shardsText(got, has) + ", want " + shardsText(want, had))
	}
}

func (b *both) take(k api.Key) bool {
	b.note("Take", keyText(k))
	got, has := b.got.Take(k)
	want, had := b.want.take(k)
	if !slices.Equal(got, want) || has != had {
		b.fail(shardsText(got, has) + ", want " + shardsText(want, had))
	}
	return has
}

func (b *both) drop(stream int) int {
	b.note("Drop", strconv.Itoa(stream))
	got, want := b.got.Drop(stream), b.want.drop(stream)
	if got != want {
		b.fail(strconv.Itoa(got) + ", want " + strconv.Itoa(want))
	}
	return got
}

// ask asks for all that is told of the whole.
func (b *both) ask() {
	got, some := b.got.Oldest()
	want, left := b.want.oldest()
	if got != want || some != left {
		b.fail("Oldest: " + keyText(got) + " (" + strconv.FormatBool(some) + "), want " + keyText(want) + " (" + strconv.FormatBool(left) + ")")
	}
	if got := b.got.Len(); got != len(b.want.entries) {
		b.fail("Len: " + strconv.Itoa(got) + ", want " + strconv.Itoa(len(b.want.entries)))
	}
}

// look asks for all that is there, and those keys besides, twice, which would see whether asking changes something.
func (b *both) look(keys ...api.Key) {
	for range 2 {
		b.ask()
		for _, e := range b.want.entries {
			b.get(e.key)
		}
		for _, k := range keys {
			b.get(k)
		}
	}
}

// drain takes whatever is the oldest one that is not ready, and then all others, and asks each time.
func (b *both) drain() {
	for k, some := b.want.oldest(); some; k, some = b.want.oldest() {
		b.take(k)
		b.ask()
	}
	for len(b.want.entries) > 0 {
		b.take(b.want.entries[0].key)
		b.ask()
	}
}

// key is a key, and shard a shard.
func key(stream int, block uint32) api.Key { return api.Key{Stream: stream, Block: block} }

func shard(index int, body string) api.Shard { return api.Shard{Index: index, Body: body} }

// keyText is a key as it is told, and shardsText what Get and Take told.
func keyText(k api.Key) string {
	return strconv.Itoa(k.Stream) + "/" + strconv.FormatUint(uint64(k.Block), 10)
}

func shardsText(l []api.Shard, has bool) string {
	var told []string
	for _, x := range l {
		told = append(told, strconv.Itoa(x.Index)+" "+strconv.Quote(x.Body))
	}
	return strconv.FormatBool(has) + " [" + strings.Join(told, ", ") + "]"
}

// farInts are ints that are far from what may be; some may be in their last bits.
func farInts() []int {
	l := []int{math.MaxInt, math.MaxInt - 1, math.MinInt, math.MinInt + 1}
	for _, base := range []int{-1 << 62, -1 << 33, -1 << 32, -1 << 31, -1 << 17, -1 << 16, -1 << 8, 1 << 17, 1 << 31, 1 << 32, 1 << 33, 1 << 62} {
		l = append(l, base, base+1, base+2, base+32, base+64)
	}
	return l
}

// someParts are numbers of parts with which tests go over what hangs on them, or must not.
func someParts() []int { return []int{1, 2, 3, 7, 16, 63, 64} }

// someKeys are keys of all kinds: no two are the same, and many are so in a sum, a difference, or their last bits.
func someKeys() []api.Key {
	streams := []int{0, 1, 2, 63, 64, 65, 128, 255, 256, -1, -2, -64, -65, -256,
		1 << 16, 1 << 31, 1<<31 - 1, 1 << 32, 1<<32 + 1, 1<<32 - 1, -1 << 31, -1 << 32, 1 << 62, math.MaxInt, math.MaxInt - 1, math.MinInt, math.MinInt + 1}
	blocks := []uint32{0, 1, 2, 63, 64, 65, 128, 255, 256, 1 << 16, 1<<31 - 1, 1 << 31, 1<<31 + 1, 1<<32 - 64, 1<<32 - 2, 1<<32 - 1}
	var l []api.Key
	for _, stream := range streams {
		for _, block := range blocks {
			l = append(l, key(stream, block))
		}
	}
	return l
}

// dice are numbers in no order, another row for each seed.
type dice uint64

// below is a number from 0 to n - 1.
func (d *dice) below(n int) int {
	*d = *d*6364136223846793005 + 1442695040888963407
	return int(uint64(*d)>>32) % n
}

// of is one of l.
func (d *dice) of(l ...int) int { return l[d.below(len(l))] }

// The chapter's example.

func TestExample(t *testing.T) {
	for _, parts := range someParts() {
		got := newTable(t, parts, 1)
		puts := []struct {
			x    api.Shard
			want int
		}{{shard(3, "ab"), 0}, {shard(3, "ab"), 1}, {shard(0, "cd"), 3}, {shard(7, "ef"), 1}}
		for i, p := range puts {
			if told := got.Put(key(1, 9), 2, p.x); told != p.want {
				t.Errorf("Put %d: %d, want %d", i, told, p.want)
			}
		}
		if l, has := got.Get(key(1, 9)); !has || !slices.Equal(l, []api.Shard{shard(0, "cd"), shard(3, "ab")}) {
			t.Errorf("Get: %s, want 0 cd, 3 ab", shardsText(l, has))
		}
	}
}

// Promise 18.1: New.

// newAsked holds New of those numbers against the chapter's words.
func newAsked(t *testing.T, parts, room int) {
	t.Helper()
	got, err := table.New(parts, room)
	if parts < 1 || parts > mostParts || room < 1 || room > most {
		if got != nil || err != api.ErrArg {
			t.Fatalf("New(%d, %d): %v, %d, want nil, ErrArg", parts, room, got, err)
		}
		return
	}
	if got == nil || err != api.OK {
		t.Fatalf("New(%d, %d): %v, %d, want a table, OK", parts, room, got, err)
	}
}

func TestNewByHand(t *testing.T) {
	for _, c := range []struct {
		parts, room int
		err         api.Errno
	}{
		{1, 1, 0}, {64, 65536, 0}, {64, 1, 0}, {1, 65536, 0}, {2, 4096, 0},
		{0, 1, 1}, {1, 0, 1}, {0, 0, 1}, {65, 1, 1}, {1, 65537, 1}, {65, 65537, 1}, {-1, 1, 1}, {1, -1, 1}, {-1, -1, 1},
		{math.MaxInt, 1, 1}, {1, math.MaxInt, 1}, {math.MinInt, 1, 1}, {1, math.MinInt, 1}, {100, 100, 1},
	} {
		if got, err := table.New(c.parts, c.room); err != c.err || (got == nil) != (err != api.OK) {
			t.Errorf("New(%d, %d): %v, %d, want %d", c.parts, c.room, got, err, c.err)
		}
	}
}

func TestNewEachNumber(t *testing.T) {
	for parts := -300; parts <= 300; parts++ {
		for _, room := range append(farInts(), -1, 0, 1, 2, 4096, most-1, most, most+1) {
			newAsked(t, parts, room)
		}
	}
	for room := -70000; room <= 140000; room++ {
		newAsked(t, 1, room)
		newAsked(t, 0, room)
	}
	for _, parts := range farInts() {
		for _, room := range append(farInts(), -1, 0, 1, most, most+1) {
			newAsked(t, parts, room)
			newAsked(t, room, parts)
		}
	}
}

// There are no entries at first.
func TestNewHasNoEntries(t *testing.T) {
	for parts := 1; parts <= mostParts; parts++ {
		b := newBoth(t, parts, 1+parts*parts)
		b.look(someKeys()...)
		for _, k := range someKeys() {
			if b.take(k) || b.drop(k.Stream) != 0 {
				b.fail("there is an entry at first")
			}
		}
		b.look()
	}
}

// Promise 18.1: Put.

func TestPutByHand(t *testing.T) {
	k, other := key(3, 7), key(3, 8)
	for _, parts := range someParts() {
		got := newTable(t, parts, 2)
		for i, c := range []struct {
			k    api.Key
			need int
			x    api.Shard
			want int
		}{
			{k, 0, shard(0, "aa"), 5}, {k, 33, shard(0, "aa"), 5}, {k, 3, shard(-1, "aa"), 5}, {k, 3, shard(255, "aa"), 5},
			{k, 3, shard(254, "aa"), 0}, {k, 3, shard(254, "aa"), 1}, {k, 3, shard(254, "ab"), 4},
			{k, 2, shard(0, "bb"), 4}, {k, 4, shard(0, "bb"), 4}, {k, 1, shard(254, "aa"), 4}, {k, 2, shard(254, "aa"), 4},
			{k, 3, shard(0, "b"), 4}, {k, 3, shard(0, "bbb"), 4}, {k, 3, shard(0, ""), 4}, {k, 3, shard(254, "a"), 4}, {k, 3, shard(254, ""), 4},
			{k, 3, shard(0, "aa"), 0}, {k, 3, shard(0, "aa"), 1}, {k, 3, shard(254, "aa"), 1}, {k, 3, shard(0, "bb"), 4},
			{other, 1, shard(0, ""), 3}, {other, 1, shard(0, ""), 1}, {other, 32, shard(254, "x"), 1}, {other, 33, shard(0, ""), 5}, {other, 1, shard(255, ""), 5},
			{key(4, 7), 1, shard(0, "aa"), 2}, {key(4, 7), 2, shard(0, "aa"), 2}, {key(4, 7), 0, shard(0, "aa"), 5},
			{k, 3, shard(-1, "cc"), 5}, {k, 3, shard(1, "cc"), 3}, {k, 3, shard(1, "cc"), 1}, {k, 3, shard(1, "cd"), 1}, {k, 3, shard(2, "dd"), 1},
			{k, 9, shard(2, "d"), 1}, {k, 32, shard(0, ""), 1}, {k, 33, shard(0, "aa"), 5}, {k, 3, shard(255, "aa"), 5}, {key(4, 7), 1, shard(0, "aa"), 2},
		} {
			if told := got.Put(c.k, c.need, c.x); told != c.want {
				t.Fatalf("%d parts, Put %d: %d, want %d", parts, i, told, c.want)
			}
		}
		if l, has := got.Get(k); !has || !slices.Equal(l, []api.Shard{shard(0, "aa"), shard(1, "cc"), shard(254, "aa")}) {
			t.Errorf("Get: %s", shardsText(l, has))
		}
		if l, has := got.Get(other); !has || !slices.Equal(l, []api.Shard{shard(0, "")}) {
			t.Errorf("Get: %s", shardsText(l, has))
		}
	}
}

// What a Put with numbers that may not be is told, on a table with nothing, with entries of all kinds, and with no room.
func TestPutRefused(t *testing.T) {
	needs := append(farInts(), -32, -1, 0, 1, 2, 31, 32, 33, 34, 255, 256)
	indexes := append(farInts(), -254, -2, -1, 0, 1, 7, 253, 254, 255, 256, 257, 511)
	for _, room := range []int{2, 3} {
		b := newBoth(t, 4, room)
		for range 2 {
			for _, need := range needs {
				for _, index := range indexes {
					if need >= 1 && need <= 32 && index >= 0 && index <= 254 {
						continue
					}
					for _, k := range []api.Key{key(1, 0), key(1, 1), key(9, 9)} {
						if b.put(k, need, shard(index, "aa")) != 5 || b.put(k, need, shard(index, "")) != 5 {
							b.fail("not refused")
						}
					}
				}
				b.look()
			}
			b.put(key(1, 0), 2, shard(7, "aa"))
			b.put(key(1, 1), 1, shard(7, "aa"))
		}
	}
}

// Each need and each Index that may be is taken, and beside them none.
func TestPutEachNeedAndIndex(t *testing.T) {
	for need := -40; need <= 80; need++ {
		for _, index := range []int{-1, 0, 1, 100, 253, 254, 255} {
			b := newBoth(t, 3, 1)
			b.put(key(0, 0), need, shard(index, "a"))
			b.look(key(0, 0))
		}
	}
	for index := -300; index <= 600; index++ {
		b := newBoth(t, 3, 1)
		b.put(key(0, 0), 2, shard(index, "a"))
		b.put(key(0, 0), 2, shard(index, "a"))
		b.look(key(0, 0))
		// It is the second one, too.
		b = newBoth(t, 3, 1)
		b.put(key(0, 0), 2, shard(100, "b"))
		b.put(key(0, 0), 2, shard(index, "a"))
		b.look(key(0, 0))
	}
}

// An entry is ready by the last one that it needs, and just then.
func TestReadyOnce(t *testing.T) {
	for need := 1; need <= 32; need++ {
		for _, step := range []int{1, 2, 7, 253, 254} {
			b := newBoth(t, 5, 2)
			for i := range 60 {
				want := 0
				switch {
				case i == need-1:
					want = 3
				case i >= need:
					want = 1
				}
				if told := b.put(key(2, 2), need, shard((i*step)%255, "body"+strconv.Itoa(i%10))); told != want {
					b.fail("shard " + strconv.Itoa(i) + ": " + strconv.Itoa(told))
				}
				b.ask()
				if i < need-1 {
					b.put(key(2, 2), need, shard((i*step)%255, "body"+strconv.Itoa(i%10)))
					b.put(key(2, 2), need, shard((i*step)%255, "other"))
					b.put(key(2, 2), need, shard((i*step)%255, "BODY0"))
				}
			}
			b.look()
		}
	}
}

// To an entry that is ready whatever comes, if it may be at all, is one more of which there are enough.
func TestPutToReady(t *testing.T) {
	for _, need := range []int{1, 2, 5, 32} {
		b := newBoth(t, 2, 3)
		for i := range need {
			b.put(key(5, 5), need, shard(i*3, "ab"))
		}
		for other := 1; other <= 32; other++ {
			for _, index := range []int{0, 1, 3, 93, 94, 254} {
				for _, body := range []string{"ab", "cd", "", "a", "abc", strings.Repeat("x", 1024)} {
					if b.put(key(5, 5), other, shard(index, body)) != 1 {
						b.fail("not known")
					}
				}
			}
		}
		b.put(key(5, 5), need, shard(255, "ab"))
		b.put(key(5, 5), 33, shard(0, "ab"))
		b.look()
	}
}

// To one that is not ready neither another need nor another length comes, whatever the Index: this is asked ahead of what is there.
func TestPutUnlike(t *testing.T) {
	for _, body := range []string{"", "a", "ab", "abcd", strings.Repeat("x", 1024), strings.Repeat("x", 3000)} {
		for _, need := range []int{2, 3, 31, 32} {
			b := newBoth(t, 2, 3)
			b.put(key(5, 5), need, shard(10, body))
			for other := 1; other <= 32; other++ {
				for _, index := range []int{10, 0, 254} {
					if other != need && b.put(key(5, 5), other, shard(index, body)) != 4 {
						b.fail("another need is taken")
					}
				}
			}
			for _, other := range []string{"", "b", "xy", "xyz", "abcd", body + "a", strings.Repeat("x", 1023), strings.Repeat("x", 2999)} {
				for _, index := range []int{10, 0, 254} {
					if len(other) != len(body) && b.put(key(5, 5), need, shard(index, other)) != 4 {
						b.fail("another length is taken")
					}
				}
			}
			b.look()
		}
	}
}

// Of each Index that is there the same Body is known, another one is unlike, whichever byte parts them.
func TestPutSameIndex(t *testing.T) {
	b := newBoth(t, 2, 3)
	body := strings.Repeat("ab", 8)
	for index := 0; index < 255; index += 9 {
		b.put(key(5, 5), 32, shard(index, body))
		for seen := 0; seen <= index; seen += 9 {
			if b.put(key(5, 5), 32, shard(seen, body)) != 1 {
				b.fail("not known")
			}
			for place := range body {
				if b.put(key(5, 5), 32, shard(seen, body[:place]+"\x00"+body[place+1:])) != 4 {
					b.fail("not unlike")
				}
			}
		}
	}
	b.look()
}

// Each of the shards is held against its own Body, not another one's.
func TestEachIndexItsBody(t *testing.T) {
	for seed := range uint64(40) {
		d, b := dice(seed), newBoth(t, 3, 2)
		for range 400 {
			b.put(key(1, 1), 32, shard(d.below(40)*6, string(rune('a'+d.below(2)))))
			b.ask()
		}
		b.look()
	}
}

// Each Stream and each Block is a key of its own, with any number of parts, and has its own shards.
func TestPutKeys(t *testing.T) {
	keys := someKeys()
	for _, parts := range someParts() {
		got := newTable(t, parts, len(keys))
		for i, k := range keys {
			if told := got.Put(k, 2, shard(i%255, "body "+strconv.Itoa(1000+i))); told != 0 {
				t.Fatalf("%d parts, Put of %s: %d, want 0", parts, keyText(k), told)
			}
		}
		if told := got.Put(key(77, 77), 1, shard(0, "")); told != 2 || got.Len() != len(keys) {
			t.Fatalf("%d parts, Put: %d, want 2; Len: %d, want %d", parts, told, got.Len(), len(keys))
		}
		for i, k := range keys {
			l, has := got.Get(k)
			if !has || !slices.Equal(l, []api.Shard{shard(i%255, "body "+strconv.Itoa(1000+i))}) {
				t.Fatalf("%d parts, Get of %s: %s", parts, keyText(k), shardsText(l, has))
			}
			if oldest, some := got.Oldest(); !some || oldest != k {
				t.Fatalf("%d parts, Oldest: %s, want %s", parts, keyText(oldest), keyText(k))
			}
			if told := got.Put(k, 2, shard((i+1)%255, "BODY "+strconv.Itoa(1000+i))); told != 3 {
				t.Fatalf("%d parts, Put of %s: %d, want 3", parts, keyText(k), told)
			}
		}
	}
}

// The entries that count are those of the whole, in whatever parts they lie: of any keys as many come in as there is room for.
func TestRoomIsOfAllParts(t *testing.T) {
	rows := []func(i int) api.Key{
		func(i int) api.Key { return key(0, uint32(i)) },
		func(i int) api.Key { return key(i, 0) },
		func(i int) api.Key { return key(i, uint32(i)) },
		func(i int) api.Key { return key(-i, uint32(i)) },
		func(i int) api.Key { return key(3, uint32(i*64)) },
		func(i int) api.Key { return key(i*64, 5) },
		func(i int) api.Key { return key(i*7*9*64, uint32(i)<<26) },
		func(i int) api.Key { return key(math.MinInt+i, math.MaxUint32-uint32(i)) },
	}
	for _, parts := range someParts() {
		for _, room := range []int{1, 2, 3, 63, 64, 65, 200} {
			for _, row := range rows {
				b := newBoth(t, parts, room)
				for i := range room {
					if told := b.put(row(i), 1+i%2, shard(0, "a")); told != 3-i%2*3 {
						b.fail(strconv.Itoa(told) + " with " + strconv.Itoa(i) + " entries")
					}
				}
				for i := range 70 {
					if b.put(row(room+i), 1+i%2, shard(0, "a")) != 2 {
						b.fail("one more than there is room for")
					}
				}
				b.look(row(room))
			}
		}
	}
}

// Whoever is there already has no need of room: a full table answers all else as it would.
func TestFullTable(t *testing.T) {
	for _, parts := range someParts() {
		b := newBoth(t, parts, 2)
		b.put(key(1, 1), 3, shard(4, "a"))
		b.put(key(2, 1), 1, shard(4, "a"))
		if b.put(key(3, 1), 3, shard(4, "a")) != 2 || b.put(key(1, 2), 1, shard(4, "a")) != 2 {
			b.fail("not full")
		}
		if b.put(key(1, 1), 3, shard(5, "b")) != 0 || b.put(key(1, 1), 3, shard(5, "b")) != 1 || b.put(key(1, 1), 3, shard(5, "c")) != 4 ||
			b.put(key(1, 1), 2, shard(6, "c")) != 4 || b.put(key(1, 1), 3, shard(6, "c")) != 3 || b.put(key(2, 1), 3, shard(6, "c")) != 1 {
			b.fail("what is there has no need of room")
		}
		if b.put(key(3, 1), 33, shard(4, "a")) != 5 || b.put(key(3, 1), 3, shard(255, "a")) != 5 {
			b.fail("this is asked ahead of room")
		}
		b.look(key(3, 1), key(1, 2))
		// What is not there takes none away, and what is gone gives its room, just once.
		b.take(key(3, 1))
		b.drop(3)
		if b.put(key(3, 1), 3, shard(4, "a")) != 2 {
			b.fail("not full")
		}
		b.take(key(2, 1))
		b.take(key(2, 1))
		if b.put(key(3, 1), 3, shard(4, "a")) != 0 || b.put(key(2, 1), 1, shard(4, "a")) != 2 {
			b.fail("one room alone is free")
		}
		b.drop(3)
		b.drop(3)
		if b.put(key(2, 1), 1, shard(9, "xyz")) != 3 || b.put(key(3, 1), 1, shard(4, "a")) != 2 {
			b.fail("one room alone is free")
		}
		b.look(key(3, 1))
		b.drain()
	}
}

// As many as there may ever be: Put, Oldest, Len, Take and Drop of the greatest table.
func TestGreatestRoom(t *testing.T) {
	got := newTable(t, 16, most)
	at := func(i int) api.Key { return key(i%256, uint32(i/256)) }
	for i := range most {
		if told := got.Put(at(i), 2, shard(i%255, "a")); told != 0 {
			t.Fatalf("Put %d: %d, want 0", i, told)
		}
		if k, some := got.Oldest(); !some || k != at(0) {
			t.Fatalf("Oldest: %s, want %s", keyText(k), keyText(at(0)))
		}
	}
	if told := got.Put(key(0, 256), 2, shard(0, "a")); told != 2 || got.Len() != most {
		t.Fatalf("Put: %d, want 2; Len: %d, want %d", told, got.Len(), most)
	}
	if many := got.Drop(255); many != 256 || got.Len() != most-256 {
		t.Fatalf("Drop: %d, want 256; Len: %d", many, got.Len())
	}
	left := most - 256
	for i := range most {
		if i%256 == 255 {
			continue
		}
		if k, some := got.Oldest(); !some || k != at(i) {
			t.Fatalf("Oldest: %s, want %s", keyText(k), keyText(at(i)))
		}
		if l, has := got.Take(at(i)); !has || !slices.Equal(l, []api.Shard{shard(i%255, "a")}) {
			t.Fatalf("Take of %s: %s", keyText(at(i)), shardsText(l, has))
		}
		if left--; got.Len() != left {
			t.Fatalf("Len: %d, want %d", got.Len(), left)
		}
	}
}

// Promise 18.2: Get and Take.

func TestGetByHand(t *testing.T) {
	got := newTable(t, 3, 3)
	if l, has := got.Get(key(0, 0)); len(l) != 0 || has {
		t.Errorf("Get: %s, want none", shardsText(l, has))
	}
	for _, x := range []api.Shard{shard(9, "nine"), shard(2, "two "), shard(254, "last"), shard(0, "zero")} {
		got.Put(key(0, 0), 4, x)
	}
	got.Put(key(0, 1), 2, shard(5, "five"))
	want := []api.Shard{shard(0, "zero"), shard(2, "two "), shard(9, "nine"), shard(254, "last")}
	for range 3 {
		if l, has := got.Get(key(0, 0)); !has || !slices.Equal(l, want) {
			t.Errorf("Get: %s", shardsText(l, has))
		}
		if l, has := got.Get(key(0, 1)); !has || !slices.Equal(l, []api.Shard{shard(5, "five")}) {
			t.Errorf("Get: %s", shardsText(l, has))
		}
	}
	if l, has := got.Get(key(1, 0)); len(l) != 0 || has || got.Len() != 2 {
		t.Errorf("Get: %s, want none; Len: %d, want 2", shardsText(l, has), got.Len())
	}
	if l, has := got.Take(key(0, 0)); !has || !slices.Equal(l, want) || got.Len() != 1 {
		t.Errorf("Take: %s; Len: %d, want 1", shardsText(l, has), got.Len())
	}
	for range 2 {
		if l, has := got.Take(key(0, 0)); len(l) != 0 || has || got.Len() != 1 {
			t.Errorf("Take: %s, want none; Len: %d, want 1", shardsText(l, has), got.Len())
		}
		if l, has := got.Get(key(0, 0)); len(l) != 0 || has {
			t.Errorf("Get: %s, want none", shardsText(l, has))
		}
	}
	// It is another one now: of another need, another length, another Body.
	if a, b := got.Put(key(0, 0), 2, shard(9, "NN")), got.Put(key(0, 0), 2, shard(0, "ZZ")); a != 0 || b != 3 {
		t.Errorf("Put: %d, %d, want 0, 3", a, b)
	}
	if l, has := got.Take(key(0, 0)); !has || !slices.Equal(l, []api.Shard{shard(0, "ZZ"), shard(9, "NN")}) {
		t.Errorf("Take: %s", shardsText(l, has))
	}
	if l, has := got.Take(key(0, 1)); !has || !slices.Equal(l, []api.Shard{shard(5, "five")}) || got.Len() != 0 {
		t.Errorf("Take: %s; Len: %d, want 0", shardsText(l, has), got.Len())
	}
}

// orders calls f with each order of 0 to n - 1.
func orders(n int, f func(l []int)) {
	var more func(l []int)
	more = func(l []int) {
		if len(l) == n {
			f(l)
			return
		}
		for i := range n {
			if !slices.Contains(l, i) {
				more(append(slices.Clone(l), i))
			}
		}
	}
	more(nil)
}

// Shards are told by rising Index, whatever order they came in, with their Bodies, also ahead of the last one.
func TestShardsRise(t *testing.T) {
	for _, indexes := range [][]int{{0, 1, 2, 3, 4}, {0, 7, 8, 9, 254}, {250, 251, 252, 253, 254}, {3, 64, 127, 128, 200}} {
		orders(5, func(l []int) {
			for _, need := range []int{5, 6} {
				b := newBoth(t, 2, 1)
				for _, i := range l {
					b.put(key(0, 0), need, shard(indexes[i], strconv.Itoa(100+indexes[i])))
					b.get(key(0, 0))
				}
				b.take(key(0, 0))
			}
		})
	}
	for seed := range uint64(200) {
		d, b := dice(seed), newBoth(t, 2, 1)
		for i := range 40 {
			b.put(key(0, 0), 32, shard(d.below(255), strconv.Itoa(100+i)))
		}
		b.get(key(0, 0))
		b.take(key(0, 0))
	}
}

// Bodies come out byte by byte as they came in: of any bytes, and of no byte.
func TestBodiesAreKept(t *testing.T) {
	all := make([]byte, 256)
	for i := range all {
		all[i] = byte(i)
	}
	for _, body := range []string{"", "\x00", "\xff\xfe", "h\xc3\xa9", string(all), strings.Repeat(string(all), 8)} {
		b := newBoth(t, 2, 2)
		b.put(key(0, 0), 2, shard(1, body))
		b.put(key(0, 0), 2, shard(1, body))
		b.get(key(0, 0))
		b.put(key(0, 0), 2, shard(0, body))
		b.put(key(0, 1), 1, shard(0, body))
		b.look()
		b.take(key(0, 0))
		b.take(key(0, 1))
	}
}

// Take: the room is free, and the key may be made again, of any kind, ready or not, again and again.
func TestTakeAndMakeAgain(t *testing.T) {
	for _, parts := range someParts() {
		b := newBoth(t, parts, 3)
		b.put(key(9, 9), 2, shard(0, "stays"))
		for i := range 60 {
			need := 1 + i%4
			k := key(1, uint32(i%2*parts))
			for j := range 1 + i%5 {
				b.put(k, need, shard((i*7+j*11)%255, strings.Repeat("a", i%6)))
			}
			b.look()
			if !b.take(k) || b.take(k) {
				b.fail("it is taken once")
			}
			b.look(k)
		}
		b.drain()
	}
}

// Promise 18.2: Drop.

func TestDropByHand(t *testing.T) {
	for _, parts := range someParts() {
		got := newTable(t, parts, 20)
		for block := range uint32(9) {
			got.Put(key(1, block), 1+int(block)%2, shard(0, "a"))
			if block < 5 {
				got.Put(key(2, block), 2, shard(0, "a"))
			}
		}
		got.Put(key(-1, 3), 2, shard(0, "a"))
		for _, c := range []struct{ stream, want, left int }{
			{0, 0, 15}, {3, 0, 15}, {-2, 0, 15}, {1, 9, 6}, {1, 0, 6}, {-1, 1, 5}, {-1, 0, 5}, {2, 5, 0}, {2, 0, 0}, {1, 0, 0},
		} {
			if many := got.Drop(c.stream); many != c.want || got.Len() != c.left {
				t.Fatalf("%d parts, Drop(%d): %d, want %d; Len: %d, want %d", parts, c.stream, many, c.want, got.Len(), c.left)
			}
			if _, has := got.Get(key(2, 4)); has != (c.left >= 5) {
				t.Fatalf("%d parts, Drop(%d): what is of stream 2 is there: %v", parts, c.stream, has)
			}
		}
	}
}

// Of many streams with the same Blocks those of one are gone, wherever they lie, and all else stays.
func TestDropOneOfMany(t *testing.T) {
	streams := []int{0, 1, 2, 63, 64, 255, -1, 1 << 32, -1 << 32, math.MaxInt, math.MinInt}
	for _, parts := range someParts() {
		for many := range 4 {
			b := newBoth(t, parts, most)
			fill := func() {
				for i, stream := range streams {
					for j := range many * 40 {
						// In parts of all kinds, some all in one.
						block := uint32(j)
						if i%2 == 0 {
							block *= mostParts * 63
						}
						b.put(key(stream, block), 1+(i+j)%3, shard(j%255, "x"))
						b.put(key(stream, block), 1+(i+j)%3, shard((j+1)%255, "y"))
					}
				}
			}
			fill()
			for _, stream := range streams {
				if got := b.drop(stream); got != many*40 || b.drop(stream) != 0 {
					b.fail("how many are gone")
				}
				b.look(key(stream, 0), key(stream, 1), key(stream, mostParts*63))
			}
			fill()
			b.drop(streams[3])
			b.drop(streams[0])
			b.look()
			fill()
			b.drain()
		}
	}
}

// Of a stream that has nothing Drop does nothing, whatever its number is.
func TestDropNone(t *testing.T) {
	b := newBoth(t, 4, 100)
	for i := range 30 {
		b.put(key(100+i%3, uint32(i)), 2, shard(0, "a"))
	}
	for _, stream := range append(farInts(), 0, 1, 99, 103, -1, -100, 100+1<<32, 100-1<<32, 100+1<<16) {
		if b.drop(stream) != 0 {
			b.fail("something is gone")
		}
	}
	b.look()
	b.drain()
}

// Promise 18.2: Oldest and Len.

func TestOldestByHand(t *testing.T) {
	for _, parts := range someParts() {
		got := newTable(t, parts, 5)
		a, b, c, d := key(9, 1), key(0, 5), key(4, 0), key(0, 4)
		steps := []struct {
			name string
			do   func()
			want api.Key
			some bool
			many int
		}{
			{"nothing", func() {}, api.Key{}, false, 0},
			{"d, ready at once", func() { got.Put(d, 1, shard(0, "x")) }, api.Key{}, false, 1},
			{"a", func() { got.Put(a, 2, shard(0, "x")) }, a, true, 2},
			{"b", func() { got.Put(b, 2, shard(0, "x")) }, a, true, 3},
			{"c", func() { got.Put(c, 3, shard(0, "x")) }, a, true, 4},
			{"b has the same", func() { got.Put(b, 2, shard(0, "x")) }, a, true, 4},
			{"a is ready", func() { got.Put(a, 2, shard(1, "x")) }, b, true, 4},
			{"a is taken", func() { got.Take(a) }, b, true, 3},
			{"a is made again", func() { got.Put(a, 2, shard(0, "x")) }, b, true, 4},
			{"b is taken", func() { got.Take(b) }, c, true, 3},
			{"b is made again", func() { got.Put(b, 2, shard(0, "x")) }, c, true, 4},
			{"c has one more", func() { got.Put(c, 3, shard(1, "x")) }, c, true, 4},
			{"d is dropped, and b", func() { got.Drop(0) }, c, true, 2},
			{"c is ready", func() { got.Put(c, 3, shard(2, "x")) }, a, true, 2},
			{"b is made again", func() { got.Put(b, 2, shard(0, "x")) }, a, true, 3},
			{"a is dropped", func() { got.Drop(9) }, b, true, 2},
			{"c is dropped, which was ready", func() { got.Drop(4) }, b, true, 1},
			{"c is made again", func() { got.Put(c, 2, shard(0, "x")) }, b, true, 2},
			{"b is dropped", func() { got.Drop(0) }, c, true, 1},
			{"c is taken", func() { got.Take(c) }, api.Key{}, false, 0},
			{"b is made again", func() { got.Put(b, 2, shard(0, "x")) }, b, true, 1},
			{"b is ready", func() { got.Put(b, 2, shard(1, "x")) }, api.Key{}, false, 1},
		}
		for _, s := range steps {
			s.do()
			for range 2 {
				if k, some := got.Oldest(); k != s.want || some != s.some || got.Len() != s.many {
					t.Fatalf("%d parts, %s: Oldest: %s (%v), want %s (%v); Len: %d, want %d", parts, s.name, keyText(k), some, keyText(s.want), s.some, got.Len(), s.many)
				}
			}
		}
	}
}

// Few entries in each order are made, and in each order made ready, taken or dropped: the oldest one is told behind each step.
func TestOldestEachOrder(t *testing.T) {
	const many = 4
	keys := []api.Key{key(0, 2), key(1, 1), key(2, 0), key(-3, 64)}
	orders(many, func(made []int) {
		orders(many, func(gone []int) {
			for kind := range 81 {
				b := newBoth(t, 1+kind%3, many+1)
				for _, i := range made {
					b.put(keys[i], 2, shard(0, "a"))
					b.ask()
				}
				for j, rest := 0, kind; j < many; j, rest = j+1, rest/3 {
					k := keys[gone[j]]
					switch rest % 3 {
					case 0:
						b.put(k, 2, shard(1, "b"))
					case 1:
						b.take(k)
					default:
						b.drop(k.Stream)
					}
					b.ask()
					if j == 1 {
						// One that is gone is made again, one that is ready is not.
						b.put(keys[gone[0]], 2, shard(5, "c"))
						b.ask()
					}
				}
				b.drain()
			}
		})
	})
}

// Promises 18.1 and 18.2: many calls one behind the other.

// All rows of five calls out of eleven kinds, with room for two; then all is taken.
func TestEachRowOfCalls(t *testing.T) {
	const kinds, length = 11, 5
	a, b, c := key(0, 0), key(0, 1), key(1, 0)
	rows := 1
	for range length {
		rows *= kinds
	}
	for row := range rows {
		two := newBoth(t, 1+row%3, 2)
		for i, rest := 0, row; i < length; i, rest = i+1, rest/kinds {
			switch rest % kinds {
			case 0:
				two.put(a, 2, shard(1, "x"))
			case 1:
				two.put(a, 2, shard(0, "y"))
			case 2:
				two.put(a, 2, shard(1, "y"))
			case 3:
				two.put(a, 3, shard(2, "x"))
			case 4:
				two.put(b, 1, shard(1, "x"))
			case 5:
				two.put(b, 3, shard(1, "x"))
			case 6:
				two.put(c, 2, shard(3, "xy"))
			case 7:
				two.put(c, 2, shard(4, "zz"))
			case 8:
				two.take(a)
			case 9:
				two.drop(0)
			default:
				two.take(c)
			}
			two.ask()
		}
		two.look(a, b, c)
		two.drain()
	}
}

// mix makes many calls, the next one by chance of a fixed seed.
func mix(t *testing.T, parts, room, streams, blocks int, seed uint64) {
	t.Helper()
	b, d := newBoth(t, parts, room), dice(seed)
	var told [6]int
	for i := range 3000 {
		k := key(d.below(streams)-streams/3, uint32(d.below(blocks)-blocks/2))
		switch d.below(24) {
		case 0:
			b.take(k)
		case 1:
			if d.below(8) == 0 {
				b.drop(k.Stream)
			}
		case 2:
			b.get(k)
		case 3:
			told[b.put(k, d.of(0, 1, 33, -1, 32), shard(d.of(0, -1, 254, 255, 7), "ab"))]++
		case 4:
			told[b.put(k, 1+d.below(32), shard(d.below(255), "ab"))]++
		case 5:
			told[b.put(k, 3, shard(d.below(255), "abc"[:d.below(4)]))]++
		case 6:
			if oldest, some := b.got.Oldest(); some && d.below(3) == 0 {
				b.take(oldest)
			}
		default:
			need := 1 + (k.Stream*5+int(k.Block)&3+4*streams)%4
			told[b.put(k, need, shard(d.below(6)*50, string(rune('a'+d.below(8)/7))+"z"))]++
		}
		b.ask()
		if i%300 == 0 {
			b.look(k)
		}
	}
	b.look()
	b.drain()
	for what, many := range told {
		if many < 10 && (what != 2 || room < streams*blocks/2) {
			b.fail("Put told " + strconv.Itoa(what) + " but " + strconv.Itoa(many) + " times: these are too few to tell")
		}
	}
}

func TestMixed(t *testing.T) {
	for parts := 1; parts <= mostParts; parts++ {
		mix(t, parts, 5, 3, 6, uint64(parts))
		mix(t, parts, 40, 7, 11, 1000+uint64(parts))
		mix(t, parts, 400, 6, 40, 2000+uint64(parts))
	}
}

// R4 and R5: memory, and what is answered.

// What was told is written over, and more is put behind it: the table is as it was.
func TestSharesNoMemory(t *testing.T) {
	spoil := func(l []api.Shard) {
		for i := range l {
			l[i] = shard(99, "spoiled")
		}
		for range 40 {
			l = append(l, shard(98, "spoiled too"))
		}
	}
	b := newBoth(t, 2, 3)
	var told [][]api.Shard
	for i := range 5 {
		b.put(key(1, 1), 5, shard(200-i*40, "body"+strconv.Itoa(i)))
		l, _ := b.got.Get(key(1, 1))
		spoil(l)
		spoil(l[:0])
		b.look()
		l, _ = b.got.Get(key(1, 1))
		told = append(told, l)
	}
	b.put(key(1, 2), 2, shard(0, "x"))
	// Those that were told ahead are as they were told, whatever came later.
	for i, l := range told {
		if len(l) != i+1 || l[i] != shard(200, "body0") || l[0] != shard(200-i*40, "body"+strconv.Itoa(i)) {
			t.Errorf("what was told behind %d shards is %s by now", i+1, shardsText(l, true))
		}
	}
	first, _ := b.got.Get(key(1, 1))
	second, _ := b.got.Get(key(1, 1))
	spoil(first)
	if !slices.Equal(second, told[4]) {
		t.Errorf("two that were told share memory: %s", shardsText(second, true))
	}
	taken, _ := b.got.Take(key(1, 1))
	spoil(second)
	if !slices.Equal(taken, told[4]) {
		t.Errorf("two that were told share memory: %s", shardsText(taken, true))
	}
	b.want.take(key(1, 1))
	b.put(key(1, 1), 2, shard(7, "new"))
	spoil(taken)
	b.look()
}

// What is gone is kept no longer, though an entry that stood beside it, and is ready, stays for long.
func TestWhatIsGoneIsNotKept(t *testing.T) {
	got := newTable(t, 2, 3)
	got.Put(key(1, 0), 2, shard(0, "stays"))
	got.Put(key(2, 0), 2, shard(0, "goes"))
	got.Put(key(1, 0), 2, shard(1, "ready"))
	held := func() uint64 {
		var m runtime.MemStats
		runtime.GC()
		runtime.ReadMemStats(&m)
		return m.HeapAlloc
	}
	before := held()
	for i := range uint32(20000) {
		if got.Put(key(2, i+1), 2, shard(0, strings.Repeat("x", 1000))) != 0 {
			t.Fatalf("Put %d: not one more", i)
		}
		if _, has := got.Take(key(2, i)); !has {
			t.Fatalf("Take %d: none", i)
		}
	}
	if after := held(); after > before+1<<22 {
		t.Errorf("%d bytes are held, and %d more by now", before, after-before)
	}
	if l, has := got.Get(key(1, 0)); !has || len(l) != 2 || got.Len() != 2 {
		t.Errorf("Get: %s; Len: %d, want 2", shardsText(l, has), got.Len())
	}
}

func TestTheSameEachTime(t *testing.T) {
	run := func(parts int) []string {
		got := newTable(t, parts, 50)
		d := dice(5)
		var l []string
		for range 3000 {
			k := key(d.below(9), uint32(d.below(20)))
			told := got.Put(k, 1+d.below(2), shard(d.below(4), "abc"[:1+d.below(2)]))
			oldest, _ := got.Oldest()
			l = append(l, strconv.Itoa(told)+keyText(oldest)+strconv.Itoa(got.Len()))
			switch d.below(5) {
			case 0:
				l = append(l, shardsText(got.Take(key(d.below(9), uint32(d.below(20))))))
			case 1:
				l = append(l, shardsText(got.Get(key(d.below(9), uint32(d.below(20))))))
			case 2:
				if d.below(9) == 0 {
					l = append(l, strconv.Itoa(got.Drop(d.below(9))))
				}
			}
		}
		return l
	}
	first := run(1)
	for parts := 1; parts <= mostParts; parts++ {
		if !slices.Equal(first, run(parts)) {
			t.Fatalf("the same calls were answered otherwise by %d parts", parts)
		}
	}
}

func TestTwoShareNothing(t *testing.T) {
	first, second := newBoth(t, 4, 20), newBoth(t, 4, 20)
	for i := range 300 {
		k := key(i%3, uint32(i%7))
		first.put(k, 2, shard(i%5, "ab"))
		second.ask()
		if i%2 == 0 {
			second.put(k, 3, shard(i%11, "c"))
		}
		if i%5 == 0 {
			first.take(key(i%2, uint32(i%7)))
		}
		if i%31 == 0 {
			second.drop(i % 3)
		}
		first.ask()
	}
	first.look()
	second.look()
	first.drain()
	second.look()
	second.drain()
}

// R1: on nil.

func TestNil(t *testing.T) {
	var none *table.Table
	for _, k := range append(someKeys(), api.Key{}) {
		for _, need := range []int{math.MinInt, -1, 0, 1, 2, 32, 33, math.MaxInt} {
			for _, index := range []int{math.MinInt, -1, 0, 254, 255, math.MaxInt} {
				if told := none.Put(k, need, shard(index, "a")); told != 5 {
					t.Fatalf("Put: %d, want 5", told)
				}
			}
		}
		if l, has := none.Get(k); len(l) != 0 || has {
			t.Fatalf("Get: %s, want none", shardsText(l, has))
		}
		if l, has := none.Take(k); len(l) != 0 || has {
			t.Fatalf("Take: %s, want none", shardsText(l, has))
		}
		if many := none.Drop(k.Stream); many != 0 {
			t.Fatalf("Drop: %d, want 0", many)
		}
	}
	if k, some := none.Oldest(); k != (api.Key{}) || some {
		t.Fatalf("Oldest: %s (%v), want none", keyText(k), some)
	}
	if many := none.Len(); many != 0 {
		t.Fatalf("Len: %d, want 0", many)
	}
}

// Promise 18.1: several goroutines at once.

// workers is how many goroutines there are at once.
const workers = 8

// together calls f with 0 to n - 1, each in a goroutine of its own, all at once, and waits for all.
func together(n int, f func(worker int)) {
	var begin, end sync.WaitGroup
	begin.Add(n)
	for worker := range n {
		end.Go(func() {
			begin.Done()
			begin.Wait()
			f(worker)
		})
	}
	end.Wait()
}

// All put the same shards in orders of their own: of each key each answer is told as often as if they came one behind the other.
func TestAllPutTheSame(t *testing.T) {
	for _, parts := range []int{1, 2, 5, 64} {
		for round := range 20 {
			const keys, need, unlikeOnes = 40, 6, 9
			got := newTable(t, parts, keys)
			var told [workers][keys][6]int
			together(workers, func(worker int) {
				d := dice(worker*100 + round)
				for range 3 * unlikeOnes {
					from, step := d.below(unlikeOnes), d.of(1, 2, 4, 5, 7, 8)
					for i := range unlikeOnes {
						for k := range keys {
							index := (from + i*step) % unlikeOnes
							told[worker][k][got.Put(key(k%3, uint32(k)), need, shard(index*28, strconv.Itoa(1000+index+k)))]++
						}
					}
				}
			})
			for k := range keys {
				var all [6]int
				for worker := range told {
					for what, many := range told[worker][k] {
						all[what] += many
					}
				}
				if want := [6]int{need - 1, workers*3*unlikeOnes*unlikeOnes - need, 0, 1, 0, 0}; all != want {
					t.Fatalf("%d parts, key %d: %v were told, want %v", parts, k, all, want)
				}
				l, has := got.Get(key(k%3, uint32(k)))
				if !has || len(l) != need {
					t.Fatalf("%d parts, key %d: %s", parts, k, shardsText(l, has))
				}
				for i, x := range l {
					if x.Body != strconv.Itoa(1000+x.Index/28+k) || i > 0 && l[i-1].Index >= x.Index {
						t.Fatalf("%d parts, key %d: %s", parts, k, shardsText(l, has))
					}
				}
			}
			if _, some := got.Oldest(); some || got.Len() != keys {
				t.Fatalf("%d parts: one is not ready: %v, %d are there, want none, %d", parts, some, got.Len(), keys)
			}
		}
	}
}

// All want room at once: just as many have it as there is, and the number of entries never passes it.
func TestRoomIsKeptTogether(t *testing.T) {
	for _, parts := range []int{1, 3, 64} {
		for _, room := range []int{1, 10, 500} {
			for range 20 {
				got := newTable(t, parts, room)
				var had, full [workers]int
				together(workers, func(worker int) {
					for i := range 200 {
						switch got.Put(key(worker, uint32(i)), 1+i%2, shard(0, "a")) {
						case 0, 3:
							had[worker]++
						case 2:
							full[worker]++
						}
						if many := got.Len(); many > room || many < 1 {
							t.Errorf("%d entries, with room for %d", many, room)
						}
					}
				})
				all, none := 0, 0
				for worker := range workers {
					all, none = all+had[worker], none+full[worker]
				}
				if all != room || none != workers*200-room || got.Len() != room {
					t.Fatalf("%d had room, %d had none, %d are there, want %d", all, none, got.Len(), room)
				}
			}
		}
	}
}

// All take and drop at once: each entry goes once.
func TestEachGoesOnce(t *testing.T) {
	for _, parts := range []int{1, 3, 64} {
		for round := range 30 {
			const streams, blocks = 5, 60
			got := newTable(t, parts, streams*blocks)
			for i := range streams * blocks {
				got.Put(key(i%streams, uint32(i/streams)), 1+i%3, shard(i%255, "a"))
			}
			var gone [workers]int
			together(workers, func(worker int) {
				for i := range streams * blocks {
					at := (i*7 + worker*13) % (streams * blocks)
					if l, has := got.Take(key(at%streams, uint32(at/streams))); has {
						gone[worker]++
						if !slices.Equal(l, []api.Shard{shard(at%255, "a")}) {
							t.Errorf("Take: %s", shardsText(l, has))
						}
					}
					if i%100 == 50+worker {
						gone[worker] += got.Drop((worker + round) % streams)
					}
				}
			})
			all := 0
			for _, many := range gone {
				all += many
			}
			if _, some := got.Oldest(); some || got.Len() != 0 || all != streams*blocks {
				t.Fatalf("%d parts: %d are gone, want %d; %d are there; one is not ready: %v", parts, all, streams*blocks, got.Len(), some)
			}
		}
	}
}

// One drops a stream while another one puts its blocks one behind the other: those that came ahead are gone, those that came behind are there, none but these.
func TestDropIsOneStep(t *testing.T) {
	const blocks, others = 4000, 4000
	for _, parts := range []int{1, 2, 64} {
		got := newTable(t, parts, blocks+others)
		// Others are in the way, so that a Drop takes its time.
		for block := range uint32(others) {
			got.Put(key(2, block), 2, shard(0, "stays"))
		}
		for round := range 40 {
			gone := 0
			together(2, func(worker int) {
				if worker == 0 {
					for block := range uint32(blocks) {
						got.Put(key(1, block), 2, shard(0, "a"))
					}
					return
				}
				for got.Len() < others+round*20 {
				}
				gone = got.Drop(1)
			})
			for block := range blocks {
				if _, has := got.Get(key(1, uint32(block))); has != (block >= gone) {
					t.Fatalf("%d parts: %d are gone; block %d is there: %v", parts, gone, block, has)
				}
			}
			if left := got.Drop(1); left != blocks-gone || got.Len() != others {
				t.Fatalf("%d parts: %d were gone, and %d are, want %d; %d are left, want %d", parts, gone, left, blocks-gone, got.Len(), others)
			}
		}
	}
}

// While a stream of many entries is dropped, whoever asks sees all of them or none.
func TestDropIsSeenWhole(t *testing.T) {
	const blocks = 2000
	for range 60 {
		got := newTable(t, 8, blocks)
		for block := range uint32(blocks) {
			got.Put(key(1, block), 2, shard(0, "a"))
		}
		together(2, func(worker int) {
			if worker == 0 {
				if many := got.Drop(1); many != blocks {
					t.Errorf("Drop: %d, want %d", many, blocks)
				}
				return
			}
			for {
				if k, some := got.Oldest(); some && k != key(1, 0) {
					t.Errorf("Oldest: %s, want %s, or none", keyText(k), keyText(key(1, 0)))
				}
				switch many := got.Len(); many {
				case 0:
					return
				case blocks:
				default:
					t.Errorf("Len: %d, want 0 or %d", many, blocks)
				}
			}
		})
	}
}

// Of one that comes and goes Oldest tells that it is there, or that there is none, and never half of it.
func TestOldestComesAndGoes(t *testing.T) {
	got := newTable(t, 2, 1)
	together(workers, func(worker int) {
		for range 40000 {
			if worker == 0 {
				got.Put(key(5, 6), 2, shard(0, "a"))
				got.Take(key(5, 6))
				continue
			}
			if k, some := got.Oldest(); some != (k == key(5, 6)) || !some && k != key(0, 0) {
				t.Errorf("Oldest: %s (%v), want %s, or none", keyText(k), some, keyText(key(5, 6)))
				return
			}
		}
	})
}

// One that is ready at once is never the oldest one of those that are not, and that one stays while others come behind it.
func TestOldestIsOneStep(t *testing.T) {
	for _, parts := range []int{1, 2, 64} {
		got := newTable(t, parts, most)
		together(workers, func(worker int) {
			for i := range 3000 {
				k := key(worker, uint32(i))
				switch {
				case worker == 0:
					if oldest, some := got.Oldest(); some {
						t.Errorf("Oldest: %s, want none", keyText(oldest))
						return
					}
				case got.Put(k, 1, shard(0, "a")) != 3:
					t.Errorf("Put: not ready at once")
				case i%2 == 0:
					got.Take(k)
				}
			}
		})
		got = newTable(t, parts, most)
		var seen [workers]bool
		together(workers, func(worker int) {
			for i := range 3000 {
				if worker == 0 {
					got.Put(key(0, uint32(3000-i)), 2, shard(0, "a"))
					continue
				}
				oldest, some := got.Oldest()
				if some != (oldest == key(0, 3000)) || !some && seen[worker] {
					t.Errorf("Oldest: %s (%v), want the first one", keyText(oldest), some)
					return
				}
				seen[worker] = some
			}
		})
	}
}

// All calls at once, on the same keys: whatever is told might be, and what is left is what came in and is not gone.
func TestAllAtOnce(t *testing.T) {
	for _, parts := range someParts() {
		for _, drops := range []bool{false, true} {
			const streams, blocks, room = 4, 12, 30
			got := newTable(t, parts, room)
			var in, out [workers]int
			together(workers, func(worker int) {
				d := dice(worker + parts*100)
				for range 5000 {
					in[worker], out[worker] = anyCall(t, got, &d, key(d.below(streams), uint32(d.below(blocks))), drops, in[worker], out[worker])
					if many := got.Len(); many < 0 || many > room {
						t.Errorf("Len: %d, want 0 to %d", many, room)
					}
				}
			})
			shards := 0
			for worker := range workers {
				shards += in[worker] - out[worker]
			}
			left := countLeft(t, got, streams, blocks)
			if !drops && left != shards {
				t.Errorf("%d parts: %d shards are left, want %d", parts, left, shards)
			}
		}
	}
}

// anyCall makes one call, and tells how many shards came in and were taken so far.
func anyCall(t *testing.T, got *table.Table, d *dice, k api.Key, drops bool, in, out int) (int, int) {
	switch d.below(12) {
	case 0:
		l, has := got.Take(k)
		sound(t, k, l, has)
		out += len(l)
	case 1:
		l, has := got.Get(k)
		sound(t, k, l, has)
	case 2:
		if drops && d.below(20) == 0 {
			got.Drop(k.Stream)
		}
	case 3:
		if oldest, some := got.Oldest(); some && need(oldest) == 1 {
			t.Errorf("Oldest: %s, which is ready at once", keyText(oldest))
		}
	default:
		index := d.below(5)
		if told := got.Put(k, need(k), shard(index*60, strconv.Itoa(100+index))); told == 0 || told == 3 {
			in++
		} else if told > 2 {
			t.Errorf("Put: %d", told)
		}
	}
	return in, out
}

// countLeft takes all that is there, the oldest ones that are not ready first, and tells how many shards that are.
func countLeft(t *testing.T, got *table.Table, streams, blocks int) int {
	shards, left := 0, got.Len()
	for oldest, some := got.Oldest(); some; oldest, some = got.Oldest() {
		l, has := got.Take(oldest)
		if sound(t, oldest, l, has); !has || len(l) == need(oldest) {
			t.Fatalf("the oldest one is %s, of which there are %s", keyText(oldest), shardsText(l, has))
		}
		shards, left = shards+len(l), left-1
	}
	for i := range streams * blocks {
		k := key(i%streams, uint32(i/streams))
		l, has := got.Take(k)
		if sound(t, k, l, has); has && len(l) != need(k) {
			t.Fatalf("%s was not the oldest one at any time, but of it there are %s", keyText(k), shardsText(l, has))
		}
		if has {
			shards, left = shards+len(l), left-1
		}
	}
	if left != 0 || got.Len() != 0 {
		t.Fatalf("Len: %d more than there were, and %d by now", left, got.Len())
	}
	return shards
}

// need is how many shards the entries of k need in TestAllAtOnce.
func need(k api.Key) int { return 1 + int(k.Block)%4 }

// sound holds what was told of k against what TestAllAtOnce puts.
func sound(t *testing.T, k api.Key, l []api.Shard, has bool) {
	fits := has == (len(l) > 0) && len(l) <= need(k)
	for i, x := range l {
		fits = fits && x.Body == strconv.Itoa(100+x.Index/60) && (i == 0 || l[i-1].Index < x.Index)
	}
	if !fits {
		t.Errorf("of %s there are %s", keyText(k), shardsText(l, has))
	}
}
