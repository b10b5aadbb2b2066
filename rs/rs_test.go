package rs

import (
	"iter"
	"math"
	"slices"
	"strconv"
	"strings"
	"testing"

	"lightship/api"
	"lightship/cauchy"
	"lightship/vector"
)

// numbers are many numbers from 0 to n - 1 in no order, another list for each seed.
func numbers(many, n int, seed uint32) []int {
	l := make([]int, many)
	state := seed*2654435761 + 12345
	for i := range l {
		state = state*1664525 + 1013904223
		l[i] = int(state>>8) % n
	}
	return l
}

// texts are k texts of size bytes in no order, others for each seed.
func texts(k, size int, seed uint32) []string {
	all := make([]byte, 0, k*size)
	for _, x := range numbers(k*size, 256, seed) {
		all = append(all, byte(x))
	}
	l := make([]string, k)
	for i := range l {
		l[i] = string(all[i*size : (i+1)*size])
	}
	return l
}

// long is a text of so many bytes.
func long(size int) string { return strings.Repeat("x", size) }

// upTo are the numbers from 0 to n - 1.
func upTo(n int) []int {
	l := make([]int, n)
	for i := range l {
		l[i] = i
	}
	return l
}

// with is l with another text at that place.
func with(l []string, place int, text string) []string {
	made := slices.Clone(l)
	made[place] = text
	return made
}

// told is shard i, made without Encode: place by place the Dot of row i and the bytes there.
func told(t *testing.T, data []string, n, i int) string {
	t.Helper()
	row, err := cauchy.Row(len(data), n, i)
	if err != api.OK {
		t.Fatalf("Row(%d, %d, %d): %d", len(data), n, i, err)
	}
	made := make([]byte, len(data[0]))
	for place := range made {
		there := make([]byte, len(data))
		for j, text := range data {
			there[j] = text[place]
		}
		made[place], err = vector.Dot(row, there)
		if err != api.OK {
			t.Fatalf("Dot: %d", err)
		}
	}
	return string(made)
}

// sizes are k, n and how long texts are, where there may be such: small ones, and those at the edges.
func sizes() [][3]int {
	l := [][3]int{
		{1, 1, 1024}, {1, 2, 1023}, {1, 255, 1}, {1, 255, 1024}, {2, 3, 1024}, {2, 255, 2}, {16, 24, 100}, {31, 31, 1}, {31, 32, 7}, {31, 255, 1},
		{32, 32, 1}, {32, 32, 1024}, {32, 33, 1}, {32, 33, 1024}, {32, 40, 256}, {32, 64, 255}, {32, 254, 1}, {32, 255, 1}, {32, 255, 3},
	}
	for n := 1; n <= 9; n++ {
		for k := 1; k <= n; k++ {
			l = append(l, [3]int{k, n, 1 + (n+k)%5})
		}
	}
	return l
}

// farNumbers are the greatest and the least ints, and those whose last 8, 16 or 32 bits are small.
func farNumbers() []int {
	return []int{math.MaxInt, math.MaxInt - 1, math.MinInt, math.MinInt + 1, 1 << 16, 1<<16 + 3, 1 << 32, 1<<32 + 3, -1 << 32, -1<<32 + 3, 512, -256, -255}
}

// noNumbers are n that there may not be of k texts.
func noNumbers(k int) []int {
	return append(farNumbers(), -k, -2, -1, 0, k-1, 256, 257, 256+k)
}

// noIndexes are numbers of which there is no shard.
func noIndexes(n int) []int {
	return append(farNumbers(), -1, -2, -n, n, n+1, 2*n, 255, 256, 256+n)
}

func name(call string, k, n int) string {
	return call + "(" + strconv.Itoa(k) + ", " + strconv.Itoa(n) + ")"
}

func wantTexts(t *testing.T, call string, got []string, err api.Errno, want []string) {
	t.Helper()
	if err != api.OK || !slices.Equal(got, want) {
		t.Errorf("%s: %d, %.200q, want OK, %.200q", call, err, got, want)
	}
}

func wantNone(t *testing.T, call string, got []string, err, want api.Errno) {
	t.Helper()
	if len(got) != 0 || err != want {
		t.Errorf("%s: %d texts, %d, want none, %d", call, len(got), err, want)
	}
}

// wantNeither: Encode answers this error, and so does Shard, whatever the index.
func wantNeither(t *testing.T, data []string, n int, want api.Errno) {
	t.Helper()
	got, err := Encode(data, n)
	wantNone(t, name("Encode", len(data), n), got, err, want)
	for _, index := range append(noIndexes(max(n, 1)), 0, 1, len(data)-1, len(data), n-1) {
		wantNoShard(t, data, n, index, want)
	}
}

func wantNoShard(t *testing.T, data []string, n, index int, want api.Errno) {
	t.Helper()
	if got, err := Shard(data, n, index); got != "" || err != want {
		t.Errorf("%s, index %d: %.50q, %d, want no text, %d", name("Shard", len(data), n), index, got, err, want)
	}
}

// Promise 5.1: ordinary data, with answers told by hand.

// words are data and all their shards.
func words() []struct{ data, shards []string } {
	return []struct{ data, shards []string }{
		{[]string{"\x01"}, []string{"\x01", "\x01", "\x8e"}}, // the chapter's example
		{[]string{"\x07"}, []string{"\x07"}},
		{[]string{"\x00"}, []string{"\x00", "\x00", "\x00", "\x00"}},
		{[]string{"\xff"}, []string{"\xff", "\xff", "\xf1", "\x55"}},
		{[]string{"\x01", "\x01"}, []string{"\x01", "\x01", "\x7a", "\x7a"}},
		{[]string{"\x01", "\x02"}, []string{"\x01", "\x02", "\x7b", "\xf5"}},
		{[]string{"abc", "def"}, []string{"abc", "def", "\x69\x12\x9d", "\xe6\x69\x12", "\x12\x7c\xcf"}},
		{[]string{"\x00\xff", "\x80\x01", "\x1d\x02"}, []string{"\x00\xff", "\x80\x01", "\x1d\x02", "\x5d\xd9", "\xf2\xa5"}},
		{[]string{"hello", "there", "world"}, []string{"hello", "there", "world", "\x9e\x78\xea\x71\xfd", "\x6d\x78\xe6\x13\xdd", "\xb6\x37\x3b\x9a\x1b"}},
		{[]string{"light", "ships", "sends", "more!"}, []string{"light", "ships", "sends", "more!", "\x65\xbf\x52\xa1\xa9", "\x62\x8c\x8e\x94\x78", "\xbf\xed\x98\x04\xfe"}},
	}
}

func TestEncode(t *testing.T) {
	for _, x := range words() {
		for n := len(x.data); n <= len(x.shards); n++ {
			got, err := Encode(x.data, n)
			wantTexts(t, name("Encode", len(x.data), n), got, err, x.shards[:n])
		}
	}
}

func TestShard(t *testing.T) {
	for _, x := range words() {
		for n := len(x.data); n <= len(x.shards); n++ {
			for index, want := range x.shards[:n] {
				if got, err := Shard(x.data, n, index); got != want || err != api.OK {
					t.Errorf("%s, index %d: %q, %d, want %q, OK", name("Shard", len(x.data), n), index, got, err, want)
				}
			}
		}
	}
}

// Each shard, of data in no order, all alike, and all 0, against the Dots.
func TestEncodeByteByByte(t *testing.T) {
	for _, s := range sizes() {
		k, n, size := s[0], s[1], s[2]
		for _, data := range [][]string{texts(k, size, uint32(n)), slices.Repeat(texts(1, size, 3), k), slices.Repeat([]string{strings.Repeat("\x00", size)}, k)} {
			want := make([]string, n)
			for i := range want {
				want[i] = told(t, data, n, i)
			}
			got, err := Encode(data, n)
			wantTexts(t, name("Encode", k, n), got, err, want)
		}
	}
}

func TestShardIsThatOfEncode(t *testing.T) {
	for _, s := range sizes() {
		k, n, size := s[0], s[1], s[2]
		data := texts(k, size, uint32(n))
		all, _ := Encode(data, n)
		for index, want := range all {
			if got, err := Shard(data, n, index); got != want || err != api.OK {
				t.Fatalf("%s, index %d: %.50q, %d, want %.50q, OK", name("Shard", k, n), index, got, err, want)
			}
		}
	}
}

// The greatest that there may be of all.
func TestEncodeTheMost(t *testing.T) {
	data := texts(32, 1024, 9)
	got, err := Encode(data, 255)
	if err != api.OK || len(got) != 255 || !slices.Equal(got[:32], data) {
		t.Fatalf("Encode of 32 texts of 1024 bytes, 255: %d shards, %d", len(got), err)
	}
	for _, i := range []int{32, 33, 100, 127, 128, 253, 254} {
		want := told(t, data, 255, i)
		one, err := Shard(data, 255, i)
		if got[i] != want || one != want || err != api.OK {
			t.Errorf("shard %d of the greatest data is another one", i)
		}
	}
}

// What a shard is does not hang on how many there are.
func TestMoreShardsBeginWithFewer(t *testing.T) {
	for _, k := range []int{1, 2, 5, 31, 32} {
		data := texts(k, 4, 7)
		all, _ := Encode(data, 255)
		for _, n := range []int{k, k + 1, k + 2, 64, 128, 254} {
			got, err := Encode(data, n)
			wantTexts(t, name("Encode", k, n), got, err, all[:n])
		}
	}
}

// Promise 5.1: what are no data.

// noData are texts that are no data, and the first error that they have.
func noData() []struct {
	data []string
	want api.Errno
} {
	type bad = struct {
		data []string
		want api.Errno
	}
	l := []bad{
		// How many there are is told ahead of how long they are.
		{nil, api.ErrArg}, {[]string{}, api.ErrArg}, {make([]string, 0, 9), api.ErrArg},
		{texts(33, 1, 1), api.ErrArg}, {texts(33, 1024, 1), api.ErrArg}, {texts(34, 3, 1), api.ErrArg}, {texts(255, 1, 1), api.ErrArg}, {texts(256, 1, 1), api.ErrArg},
		{texts(257, 1, 1), api.ErrArg}, {texts(288, 1, 1), api.ErrArg}, {make([]string, 65537), api.ErrArg},
		{make([]string, 33), api.ErrArg}, {texts(33, 1025, 1), api.ErrArg}, {with(texts(33, 2, 1), 0, ""), api.ErrArg}, {with(texts(33, 2, 1), 5, "x"), api.ErrArg},
		// How long the first one is is told ahead of how long the others are.
		{[]string{""}, api.ErrLong}, {make([]string, 2), api.ErrLong}, {make([]string, 32), api.ErrLong},
		{texts(1, 1025, 1), api.ErrLong}, {texts(2, 1025, 1), api.ErrLong}, {texts(32, 1025, 1), api.ErrLong}, {texts(1, 1026, 1), api.ErrLong},
		{texts(1, 1280, 1), api.ErrLong}, {texts(1, 2048, 1), api.ErrLong}, {texts(1, 65537, 1), api.ErrLong},
		{[]string{"", "x"}, api.ErrLong}, {[]string{"", long(1025)}, api.ErrLong}, {[]string{long(1025), "x"}, api.ErrLong}, {[]string{long(1025), ""}, api.ErrLong},
		{with(texts(32, 3, 1), 0, ""), api.ErrLong}, {with(texts(32, 3, 1), 0, long(1025)), api.ErrLong},
		{[]string{"x", ""}, api.ErrUnlike}, {[]string{"x", "xy"}, api.ErrUnlike}, {[]string{"xy", "x"}, api.ErrUnlike}, {[]string{"x", long(1025)}, api.ErrUnlike},
		{[]string{long(1024), long(1025)}, api.ErrUnlike}, {[]string{long(1024), long(1023)}, api.ErrUnlike}, {[]string{long(1024), ""}, api.ErrUnlike},
		{[]string{"ab", "cd", "e", "fgh"}, api.ErrUnlike}, {[]string{"ab", "", "", ""}, api.ErrUnlike}, {[]string{"x", "y", long(257)}, api.ErrUnlike},
	}
	// A later text that is shorter, longer, empty or too long, at each place.
	for _, k := range []int{2, 3, 31, 32} {
		for place := 1; place < k; place++ {
			for _, text := range []string{"", long(2), long(4), long(1024), long(1025), long(259)} {
				l = append(l, bad{with(texts(k, 3, 2), place, text), api.ErrUnlike})
			}
		}
	}
	return l
}

// Whatever n and index are: what is wrong with data is told ahead of it.
func TestNoData(t *testing.T) {
	for _, x := range noData() {
		k := len(x.data)
		for _, n := range append(noNumbers(k), 1, k, k+1, 255) {
			got, err := Encode(x.data, n)
			wantNone(t, name("Encode", k, n), got, err, x.want)
			for _, index := range []int{0, -1, n, n - 1, k, math.MaxInt, math.MinInt} {
				wantNoShard(t, x.data, n, index, x.want)
			}
		}
	}
}

// So many texts, and so long, there may be, and no more, and no longer.
func TestDataAtTheEdges(t *testing.T) {
	for _, k := range []int{1, 2, 31, 32} {
		for _, size := range []int{1, 2, 1023, 1024} {
			data := texts(k, size, 4)
			got, err := Encode(data, k)
			wantTexts(t, name("Encode", k, k), got, err, data)
		}
	}
}

// That there may not be so many shards is told ahead of which one is asked for.
func TestNoNumberOfShards(t *testing.T) {
	for _, k := range []int{1, 2, 3, 16, 31, 32} {
		for _, size := range []int{1, 5, 1024} {
			for _, n := range noNumbers(k) {
				wantNeither(t, texts(k, size, 5), n, api.ErrArg)
			}
		}
	}
}

func TestFewerShardsThanTexts(t *testing.T) {
	for k := 2; k <= 32; k++ {
		for n := range k {
			wantNeither(t, texts(k, 2, 5), n, api.ErrArg)
		}
	}
}

func TestNoIndex(t *testing.T) {
	for _, s := range sizes() {
		k, n, size := s[0], s[1], s[2]
		for _, index := range noIndexes(n) {
			if index < 0 || index >= n {
				wantNoShard(t, texts(k, size, 6), n, index, api.ErrRange)
			}
		}
	}
}

// Promise 5.2.

// shards are those of l with these Indexes, in their order.
func shards(l []string, indexes []int) []api.Shard {
	made := make([]api.Shard, len(indexes))
	for i, index := range indexes {
		made[i] = api.Shard{Index: index, Body: l[index]}
	}
	return made
}

func s(index int, body string) api.Shard { return api.Shard{Index: index, Body: body} }

func TestDecode(t *testing.T) {
	for _, x := range []struct {
		k, n int
		l    []api.Shard
		want []string
	}{
		{1, 3, []api.Shard{s(2, "\x8e")}, []string{"\x01"}}, // the chapter's example
		{1, 3, []api.Shard{s(1, "\x01")}, []string{"\x01"}},
		{1, 3, []api.Shard{s(0, "\x01")}, []string{"\x01"}},
		{1, 1, []api.Shard{s(0, "hello")}, []string{"hello"}},
		{1, 4, []api.Shard{s(3, "\x55")}, []string{"\xff"}},
		{2, 2, []api.Shard{s(0, "abc"), s(1, "def")}, []string{"abc", "def"}},
		{2, 2, []api.Shard{s(1, "def"), s(0, "abc")}, []string{"abc", "def"}},
		{2, 4, []api.Shard{s(2, "\x7b"), s(3, "\xf5")}, []string{"\x01", "\x02"}},
		{2, 4, []api.Shard{s(3, "\xf5"), s(2, "\x7b")}, []string{"\x01", "\x02"}},
		{2, 5, []api.Shard{s(2, "\x69\x12\x9d"), s(0, "abc")}, []string{"abc", "def"}},
		{2, 5, []api.Shard{s(4, "\x12\x7c\xcf"), s(3, "\xe6\x69\x12")}, []string{"abc", "def"}},
		{2, 255, []api.Shard{s(1, "def"), s(4, "\x12\x7c\xcf")}, []string{"abc", "def"}},
		{3, 6, []api.Shard{s(5, "\xb6\x37\x3b\x9a\x1b"), s(3, "\x9e\x78\xea\x71\xfd"), s(4, "\x6d\x78\xe6\x13\xdd")}, []string{"hello", "there", "world"}},
		{3, 5, []api.Shard{s(0, "\x00\xff"), s(4, "\xf2\xa5"), s(3, "\x5d\xd9")}, []string{"\x00\xff", "\x80\x01", "\x1d\x02"}},
		{4, 7, []api.Shard{s(6, "\xbf\xed\x98\x04\xfe"), s(4, "\x65\xbf\x52\xa1\xa9"), s(2, "sends"), s(5, "\x62\x8c\x8e\x94\x78")}, []string{"light", "ships", "sends", "more!"}},
		// An Index that was there, with the same text, is none more.
		{2, 2, []api.Shard{s(0, "abc"), s(0, "abc"), s(1, "def")}, []string{"abc", "def"}},
		{2, 5, []api.Shard{s(2, "\x69\x12\x9d"), s(2, "\x69\x12\x9d"), s(2, "\x69\x12\x9d"), s(0, "abc"), s(2, "\x69\x12\x9d"), s(0, "abc")}, []string{"abc", "def"}},
		// Zero shards are of data that are zero.
		{2, 4, []api.Shard{s(3, "\x00\x00"), s(2, "\x00\x00")}, []string{"\x00\x00", "\x00\x00"}},
		{2, 4, []api.Shard{s(3, "\x00"), s(3, "\x00"), s(2, "\x00")}, []string{"\x00", "\x00"}},
	} {
		got, err := Decode(x.k, x.n, x.l)
		wantTexts(t, name("Decode", x.k, x.n), got, err, x.want)
	}
}

// Just k unlike Indexes, at all sizes: the first ones, the last ones, rising, falling, and in no order.
func TestDecodeAtAllSizes(t *testing.T) {
	for _, x := range sizes() {
		k, n, size := x[0], x[1], x[2]
		data := texts(k, size, uint32(n+5))
		all, _ := Encode(data, n)
		falling := upTo(n)
		slices.Reverse(falling)
		for _, l := range [][]int{upTo(n)[:k], upTo(n)[n-k:], falling[:k], falling[n-k:], unlikes(k, n, 1), unlikes(k, n, 2)} {
			got, err := Decode(k, n, shards(all, l))
			wantTexts(t, name("Decode", k, n), got, err, data)
		}
	}
}

// Data are told of any shards that may be, were they encoded or not: theirs are those that were handed in.
func TestDecodeOfWhatWasNotEncoded(t *testing.T) {
	for _, x := range sizes() {
		k, n, size := x[0], x[1], x[2]
		given := shards(texts(n, size, 11), unlikes(k, n, 3))
		data, err := Decode(k, n, given)
		if err != api.OK || len(data) != k {
			t.Fatalf("%s: %d texts, %d", name("Decode", k, n), len(data), err)
		}
		for _, shard := range given {
			if got, err := Shard(data, n, shard.Index); got != shard.Body || err != api.OK {
				t.Fatalf("%s: shard %d of what was decoded is another one", name("Decode", k, n), shard.Index)
			}
		}
	}
}

// With more than k unlike Indexes the first k alone tell the data: the others may be of other data.
func TestDecodeByTheFirst(t *testing.T) {
	for _, x := range [][3]int{{1, 2, 3}, {1, 255, 1}, {2, 3, 4}, {2, 6, 2}, {3, 9, 5}, {8, 12, 3}, {16, 40, 2}, {31, 32, 1}, {32, 255, 1}} {
		k, n, size := x[0], x[1], x[2]
		data, other := texts(k, size, 21), texts(k, size, 22)
		all, _ := Encode(data, n)
		others, _ := Encode(other, n)
		for seed := range uint32(5) {
			l := unlikes(n, n, seed)
			first, behind := shards(all, l[:k]), shards(others, l[k:])
			twice := slices.Concat(first[:1], first, first[k-1:], behind, first, behind)
			for _, given := range [][]api.Shard{shards(all, l), slices.Concat(first, behind), slices.Concat(first, behind[:1]), twice} {
				got, err := Decode(k, n, given)
				wantTexts(t, name("Decode", k, n), got, err, data)
			}
		}
	}
}

func TestDecodeByTheFirstByHand(t *testing.T) {
	for _, x := range []struct {
		k, n int
		l    []api.Shard
		want []string
	}{
		{1, 2, []api.Shard{s(0, "a"), s(1, "z")}, []string{"a"}},
		{1, 2, []api.Shard{s(1, "z"), s(0, "a")}, []string{"z"}},
		{2, 3, []api.Shard{s(1, "b"), s(0, "a"), s(2, "?")}, []string{"a", "b"}},
		{2, 3, []api.Shard{s(1, "b"), s(1, "b"), s(0, "a"), s(2, "?"), s(2, "?")}, []string{"a", "b"}},
		{2, 5, []api.Shard{s(0, "abc"), s(2, "\x69\x12\x9d"), s(1, "xyz")}, []string{"abc", "def"}},
	} {
		got, err := Decode(x.k, x.n, x.l)
		wantTexts(t, name("Decode", x.k, x.n), got, err, x.want)
	}
}

// That there may not be so many is told ahead of what is wrong with the shards.
func TestDecodeOfNoNumber(t *testing.T) {
	type pair struct{ k, n int }
	var l []pair
	for _, k := range append(farNumbers(), -2, -1, 0, 33, 34, 64, 255, 256, 257) {
		for _, n := range append(farNumbers(), -1, 0, 1, 32, 33, 34, 254, 255, 256, k) {
			l = append(l, pair{k, n})
		}
	}
	for _, k := range []int{1, 2, 3, 16, 31, 32} {
		for _, n := range noNumbers(k) {
			l = append(l, pair{k, n})
		}
	}
	for _, x := range l {
		for _, given := range [][]api.Shard{
			nil, {}, {s(0, "a")}, {s(0, "a"), s(1, "b")}, {s(-1, "a")}, {s(255, "a")}, {s(0, "")}, {s(0, long(1025))}, {s(0, "a"), s(0, "b")}, {s(0, "a"), s(1, "bc")},
			shards(texts(32, 2, 1), upTo(32)), shards(texts(33, 2, 1), upTo(33)), shards(texts(255, 1, 1), upTo(255)),
		} {
			got, err := Decode(x.k, x.n, given)
			wantNone(t, name("Decode", x.k, x.n), got, err, api.ErrArg)
		}
	}
}

// k and n at the edges of what they may be.
func TestDecodeAtTheEdges(t *testing.T) {
	for _, x := range [][2]int{{1, 1}, {1, 2}, {1, 254}, {1, 255}, {2, 2}, {31, 31}, {31, 255}, {32, 32}, {32, 33}, {32, 254}, {32, 255}} {
		for _, size := range []int{1, 2, 1023, 1024} {
			k, n := x[0], x[1]
			data := texts(k, size, 31)
			given := shards(data, upTo(k))
			last, _ := Shard(data, n, n-1)
			given[0] = s(n-1, last)
			want := data
			if n == k && k > 1 {
				// The last shard is the last text: the first one lacks.
				got, err := Decode(k, n, given)
				wantNone(t, name("Decode", k, n), got, err, api.ErrLess)
				given = append(given, s(0, data[0]))
			}
			got, err := Decode(k, n, given)
			wantTexts(t, name("Decode", k, n), got, err, want)
		}
	}
}

// Promise 5.2: fewer than k unlike Indexes.

func TestDecodeOfTooFew(t *testing.T) {
	for _, x := range sizes() {
		k, n, size := x[0], x[1], x[2]
		all := texts(n, size, 41)
		for _, given := range [][]api.Shard{nil, {}, make([]api.Shard, 0, 9)} {
			got, err := Decode(k, n, given)
			wantNone(t, name("Decode", k, n), got, err, api.ErrLess)
		}
		for _, many := range []int{1, 2, k / 2, k - 2, k - 1} {
			if many < 1 || many >= k {
				continue
			}
			few := shards(all, unlikes(many, n, 4))
			twice := slices.Repeat(few, 2+k/many)
			for _, given := range [][]api.Shard{few, twice} {
				got, err := Decode(k, n, given)
				wantNone(t, name("Decode", k, n), got, err, api.ErrLess)
			}
		}
	}
}

// Promise 5.2: what a shard may not be.

// faults are lists of shards, and the first error that they have, where n is 5.
func faults() []struct {
	l    []api.Shard
	want api.Errno
} {
	a, b := s(0, "abc"), s(1, "def")
	return []struct {
		l    []api.Shard
		want api.Errno
	}{
		// One fault in the first shard, in the second, or behind the first two; that there are too few is told last.
		{[]api.Shard{s(-1, "abc")}, api.ErrRange}, {[]api.Shard{s(5, "abc")}, api.ErrRange},
		{[]api.Shard{s(-1, "abc"), a, b}, api.ErrRange}, {[]api.Shard{a, s(5, "abc"), b}, api.ErrRange}, {[]api.Shard{a, b, s(-1, "abc")}, api.ErrRange}, {[]api.Shard{a, b, a, b, s(5, "abc")}, api.ErrRange},
		{[]api.Shard{s(0, "")}, api.ErrLong}, {[]api.Shard{s(0, long(1025))}, api.ErrLong}, {[]api.Shard{s(0, long(1280))}, api.ErrLong}, {[]api.Shard{s(0, long(65537))}, api.ErrLong},
		{[]api.Shard{s(2, ""), a, b}, api.ErrLong}, {[]api.Shard{a, s(2, ""), b}, api.ErrLong}, {[]api.Shard{a, b, s(2, "")}, api.ErrLong}, {[]api.Shard{a, b, s(2, long(1025))}, api.ErrLong},
		{[]api.Shard{a, s(1, "de")}, api.ErrUnlike}, {[]api.Shard{a, s(1, "defg")}, api.ErrUnlike}, {[]api.Shard{a, s(1, "d"), b}, api.ErrUnlike}, {[]api.Shard{a, b, s(2, "gh")}, api.ErrUnlike},
		{[]api.Shard{a, b, s(2, "ghij")}, api.ErrUnlike}, {[]api.Shard{a, b, s(2, long(1024))}, api.ErrUnlike}, {[]api.Shard{a, b, s(2, long(259))}, api.ErrUnlike}, {[]api.Shard{s(2, "gh"), a, b}, api.ErrUnlike},
		{[]api.Shard{a, s(0, "abd")}, api.ErrUnlike}, {[]api.Shard{a, s(0, "ab")}, api.ErrUnlike}, {[]api.Shard{a, s(0, "abcd")}, api.ErrUnlike}, {[]api.Shard{a, s(0, "\x00bc"), b}, api.ErrUnlike},
		{[]api.Shard{s(0, "\x00"), s(0, "a")}, api.ErrUnlike}, {[]api.Shard{s(0, "a"), s(0, "\x00")}, api.ErrUnlike},
		{[]api.Shard{a, b, s(0, "abd")}, api.ErrUnlike}, {[]api.Shard{a, b, s(1, "abc")}, api.ErrUnlike}, {[]api.Shard{a, b, a, b, s(1, "deg")}, api.ErrUnlike},
		// Two shards behind the first two that have one Index.
		{[]api.Shard{a, b, s(2, "ghi"), s(2, "ghj")}, api.ErrUnlike}, {[]api.Shard{a, b, s(4, "ghi"), s(4, "ghi"), s(4, "ghj")}, api.ErrUnlike}, {[]api.Shard{a, b, s(2, "ghi"), s(3, "ghj"), s(2, "gh")}, api.ErrUnlike},
		// Several faults in one shard: Index, length, and then who is unlike.
		{[]api.Shard{s(-1, "")}, api.ErrRange}, {[]api.Shard{s(5, long(1025))}, api.ErrRange}, {[]api.Shard{a, s(5, "")}, api.ErrRange}, {[]api.Shard{a, s(-1, "ab")}, api.ErrRange}, {[]api.Shard{a, b, s(5, long(1025))}, api.ErrRange},
		{[]api.Shard{a, s(0, "")}, api.ErrLong}, {[]api.Shard{a, s(0, long(1025))}, api.ErrLong}, {[]api.Shard{a, s(1, "")}, api.ErrLong}, {[]api.Shard{a, b, s(1, "")}, api.ErrLong}, {[]api.Shard{s(0, long(1024)), s(1, long(1025))}, api.ErrLong},
		// Faults in several shards: the first shard's.
		{[]api.Shard{s(-1, "abc"), s(0, "")}, api.ErrRange}, {[]api.Shard{s(0, ""), s(-1, "abc")}, api.ErrLong}, {[]api.Shard{s(0, long(1025)), s(5, "")}, api.ErrLong},
		{[]api.Shard{a, s(1, "de"), s(5, "abc")}, api.ErrUnlike}, {[]api.Shard{a, s(1, "de"), s(1, "")}, api.ErrUnlike}, {[]api.Shard{a, s(5, "abc"), s(1, "de")}, api.ErrRange},
		{[]api.Shard{a, s(1, ""), s(1, "de"), s(-1, "abc")}, api.ErrLong}, {[]api.Shard{a, s(0, "abd"), s(1, "")}, api.ErrUnlike}, {[]api.Shard{a, s(1, ""), s(0, "abd")}, api.ErrLong},
		{[]api.Shard{a, b, s(0, "abd"), s(5, "abc")}, api.ErrUnlike}, {[]api.Shard{a, b, s(5, "abc"), s(0, "abd")}, api.ErrRange}, {[]api.Shard{a, b, s(3, ""), s(5, "abc")}, api.ErrLong}, {[]api.Shard{a, b, s(5, "abc"), s(3, "")}, api.ErrRange},
		// As long as the first one all must be, not as the one ahead, nor as most are.
		{[]api.Shard{s(0, "a"), s(1, "bc"), s(2, "de"), s(3, "fg")}, api.ErrUnlike}, {[]api.Shard{a, b, s(2, "ghi"), s(3, "j")}, api.ErrUnlike},
	}
}

func TestFaults(t *testing.T) {
	for i, x := range faults() {
		// Neither how many shards are asked for nor how many there are tells a fault.
		for k := 1; k <= 5; k++ {
			if got, err := Decode(k, 5, x.l); len(got) != 0 || err != x.want {
				t.Errorf("Decode(%d, 5) of the faulty list %d: %d texts, %d, want none, %d", k, i, len(got), err, x.want)
			}
		}
	}
}

// One fault at each place of lists that have none else, of just k shards and of more.
func TestOneFaultAtEachPlace(t *testing.T) {
	for _, x := range [][3]int{{1, 1, 1}, {1, 3, 2}, {2, 5, 3}, {3, 3, 4}, {4, 9, 1}, {31, 33, 2}, {32, 32, 1}, {32, 40, 3}} {
		k, n, size := x[0], x[1], x[2]
		all := texts(n, size, 51)
		for _, many := range []int{k, n} {
			l := shards(all, unlikes(many, n, 6))
			for place := range many + 1 {
				for _, index := range noIndexes(n) {
					if index < 0 || index >= n {
						wantFault(t, k, n, slices.Insert(slices.Clone(l), place, s(index, all[0])), api.ErrRange)
					}
				}
				wantFault(t, k, n, slices.Insert(slices.Clone(l), place, s(n-1, "")), api.ErrLong)
				wantFault(t, k, n, slices.Insert(slices.Clone(l), place, s(0, long(1025))), api.ErrLong)
				wantFault(t, k, n, slices.Insert(slices.Clone(l), place, s(l[0].Index, long(size+1))), api.ErrUnlike)
				wantFault(t, k, n, slices.Insert(slices.Clone(l), place, s(l[many-1].Index, "other"[:size])), api.ErrUnlike)
			}
		}
	}
}

func wantFault(t *testing.T, k, n int, l []api.Shard, want api.Errno) {
	t.Helper()
	got, err := Decode(k, n, l)
	wantNone(t, name("Decode", k, n), got, err, want)
}

// All Indexes from 0 to n - 1 there may be, whatever n.
func TestEachIndex(t *testing.T) {
	for _, n := range []int{1, 2, 3, 31, 32, 33, 127, 128, 129, 254, 255} {
		for index := range n {
			given := []api.Shard{s(index, "xyz")}
			data, err := Decode(1, n, given)
			if err != api.OK || len(data) != 1 {
				t.Fatalf("Decode(1, %d) of shard %d: %d texts, %d", n, index, len(data), err)
			}
			if got := told(t, data, n, index); got != "xyz" {
				t.Fatalf("Decode(1, %d) of shard %d: %q, whose shard is %q", n, index, data, got)
			}
		}
	}
}

// Texts as long as may be, and as short.
func TestDecodeLengths(t *testing.T) {
	for size := 1; size <= 1024; size++ {
		data := texts(2, size, uint32(size))
		third, err := Shard(data, 3, 2)
		if err != api.OK || len(third) != size {
			t.Fatalf("Shard of texts of %d bytes: %d bytes, %d", size, len(third), err)
		}
		got, err := Decode(2, 3, []api.Shard{s(2, third), s(1, data[1])})
		wantTexts(t, "Decode of texts of "+strconv.Itoa(size)+" bytes", got, err, data)
	}
}

// Promise 5.3: any k shards of what was encoded are decoded as it was.

// unlikes are k of the numbers from 0 to n - 1 in no order, no number twice.
func unlikes(k, n int, seed uint32) []int {
	l := upTo(n)
	for i, other := range numbers(n, n, seed) {
		l[i], l[other] = l[other], l[i]
	}
	return l[:k]
}

// choices are all rising lists of k of the numbers from 0 to n - 1. Each is good till the next one is asked for.
func choices(k, n int) iter.Seq[[]int] {
	return func(yield func([]int) bool) {
		l := upTo(k)
		for yield(l) {
			last := k - 1
			for last >= 0 && l[last] == n-k+last {
				last--
			}
			if last < 0 {
				return
			}
			l[last]++
			for i := last + 1; i < k; i++ {
				l[i] = l[i-1] + 1
			}
		}
	}
}

// orders hands f all orders of l from place on.
func orders(l []int, place int, f func(l []int)) {
	if place == len(l) {
		f(l)
		return
	}
	for i := place; i < len(l); i++ {
		l[place], l[i] = l[i], l[place]
		orders(l, place+1, f)
		l[place], l[i] = l[i], l[place]
	}
}

// repeated is l with each number at some places more, none of them ahead of the first time that it is there.
func repeated(l []int, seed uint32) []int {
	made := make([]int, 0, 3*len(l))
	for i, more := range numbers(len(l), 4, seed) {
		made = append(made, l[i])
		for _, at := range numbers(more, i+1, seed+uint32(i)) {
			made = append(made, l[at])
		}
	}
	return made
}

// wantBack: the shards with these Indexes are decoded as what was encoded, and so they are with some of them twice.
func wantBack(t *testing.T, data, all []string, indexes []int) {
	t.Helper()
	for _, l := range [][]int{indexes, repeated(indexes, 1), append(slices.Clone(indexes), indexes[0])} {
		got, err := Decode(len(data), len(all), shards(all, l))
		if err != api.OK || !slices.Equal(got, data) {
			t.Fatalf("%s of the shards %v: %d, not what was encoded", name("Decode", len(data), len(all)), l, err)
		}
	}
}

func encoded(t *testing.T, data []string, n int) []string {
	t.Helper()
	all, err := Encode(data, n)
	if err != api.OK || len(all) != n {
		t.Fatalf("%s: %d shards, %d", name("Encode", len(data), n), len(all), err)
	}
	return all
}

func TestChoicesAreAll(t *testing.T) {
	for _, x := range [][3]int{{1, 1, 1}, {1, 5, 5}, {2, 5, 10}, {5, 5, 1}, {3, 9, 84}, {5, 10, 252}} {
		many := 0
		for l := range choices(x[0], x[1]) {
			if !slices.IsSorted(l) || len(slices.Compact(slices.Clone(l))) != x[0] {
				t.Errorf("the choice %v of %d", l, x[1])
			}
			many++
		}
		if many != x[2] {
			t.Errorf("%d choices of %d out of %d, want %d", many, x[0], x[1], x[2])
		}
	}
}

func TestAllChoicesInAllOrders(t *testing.T) {
	for n := 1; n <= 6; n++ {
		for k := 1; k <= n; k++ {
			data := texts(k, 3, uint32(n))
			all := encoded(t, data, n)
			for l := range choices(k, n) {
				orders(slices.Clone(l), 0, func(l []int) { wantBack(t, data, all, l) })
			}
		}
	}
}

func TestAllChoices(t *testing.T) {
	for n := 7; n <= 12; n++ {
		for k := 1; k <= n; k++ {
			data := texts(k, 2, uint32(n))
			all := encoded(t, data, n)
			for l := range choices(k, n) {
				wantBack(t, data, all, l)
			}
		}
	}
}

func TestAllChoicesOfFewAmongMany(t *testing.T) {
	for _, x := range [][2]int{{1, 255}, {2, 255}, {3, 30}, {4, 18}} {
		data := texts(x[0], 2, 61)
		all := encoded(t, data, x[1])
		for l := range choices(x[0], x[1]) {
			wantBack(t, data, all, l)
		}
	}
}

func TestManyChoices(t *testing.T) {
	for _, x := range []struct{ k, n, size, tries int }{
		{3, 255, 2, 2000}, {4, 255, 1, 2000}, {5, 40, 7, 500}, {8, 12, 5, 500}, {8, 255, 3, 300}, {16, 24, 3, 200}, {16, 255, 3, 100},
		{31, 62, 2, 50}, {32, 33, 2, 60}, {32, 48, 10, 50}, {32, 255, 2, 100}, {4, 8, 1024, 30}, {16, 32, 1024, 5}, {32, 48, 1024, 3}, {32, 255, 512, 2},
	} {
		data := texts(x.k, x.size, 71)
		all := encoded(t, data, x.n)
		for seed := range uint32(x.tries) {
			wantBack(t, data, all, unlikes(x.k, x.n, seed))
		}
	}
}

// The last k shards, those in the middle, every second one, and all but one of k + 1.
func TestChoicesAtTheEdges(t *testing.T) {
	for _, x := range [][2]int{{1, 255}, {2, 255}, {16, 32}, {31, 255}, {32, 64}, {32, 254}, {32, 255}} {
		k, n := x[0], x[1]
		data := texts(k, 3, 81)
		all := encoded(t, data, n)
		var second []int
		for i := range k {
			second = append(second, 2*i)
		}
		for _, l := range [][]int{upTo(n)[n-k:], upTo(n)[(n-k)/2:][:k], second} {
			wantBack(t, data, all, l)
			slices.Reverse(l)
			wantBack(t, data, all, l)
		}
	}
	for k := 1; k <= 32; k++ {
		data := texts(k, 2, 91)
		all := encoded(t, data, k+1)
		for gone := range k + 1 {
			wantBack(t, data, all, slices.Delete(upTo(k+1), gone, gone+1))
		}
	}
}

// Fewer than k shards of what was encoded are not enough, whichever they are.
func TestOneFewerIsLess(t *testing.T) {
	for n := 2; n <= 9; n++ {
		for k := 2; k <= n; k++ {
			all := encoded(t, texts(k, 2, uint32(n)), n)
			for l := range choices(k-1, n) {
				wantFault(t, k, n, shards(all, repeated(l, 2)), api.ErrLess)
			}
		}
	}
}

// R4 and R5: what is handed in is not changed, and what is answered is memory of its own.

// wide is l with room behind it that holds more, where an append to it would write; whole is all of it.
func wide[T any](l []T, more ...T) (given, whole []T) {
	whole = slices.Concat(l, more)
	return whole[:len(l)], whole
}

func TestWhatIsHandedInIsNotChanged(t *testing.T) {
	for _, x := range [][3]int{{1, 1, 1}, {2, 5, 3}, {3, 3, 4}, {32, 40, 5}, {3, 2, 1}, {33, 40, 2}, {2, 256, 2}, {2, 5, 1025}} {
		k, n := x[0], x[1]
		data, whole := wide(texts(k, x[2], 1), "behind", "this", "too")
		before := slices.Clone(whole)
		Encode(data, n)
		Shard(data, n, 0)
		Shard(data, n, n-1)
		Shard(data, n, n)
		if !slices.Equal(whole, before) {
			t.Errorf("%s changed its data", name("Encode or Shard", k, n))
		}
		l := shards(texts(max(n, k), x[2], 2), append(unlikes(k, max(n, k), 3), 0, 0))
		for _, list := range [][]api.Shard{l, l[:1], append(slices.Clone(l), s(-1, "a")), append(slices.Clone(l), s(0, "a")), nil} {
			given, whole := wide(list, s(7, "behind"), s(8, "too"))
			before := slices.Clone(whole)
			Decode(k, n, given)
			if !slices.Equal(whole, before) {
				t.Errorf("%s changed its shards", name("Decode", k, n))
			}
		}
	}
}

// answers are the lists that calls answer, each time anew.
func answers() [][]string {
	var made [][]string
	for _, x := range [][3]int{{1, 1, 1}, {1, 3, 2}, {2, 2, 3}, {3, 6, 4}, {32, 40, 2}} {
		k, n := x[0], x[1]
		data := texts(k, x[2], 1)
		all, _ := Encode(data, n)
		again, _ := Encode(data, k)
		one, _ := Shard(data, n, n-1)
		first, _ := Decode(k, n, shards(all, upTo(k)))
		last, _ := Decode(k, n, shards(all, upTo(n)[n-k:]))
		made = append(made, all, again, []string{one}, first, last)
	}
	return made
}

// Whoever writes to a list, or behind it, writes to no other one.
func TestAnswersAreNewMemory(t *testing.T) {
	want := answers()
	first, second := answers(), answers()
	for at, l := range first {
		_ = append(l, "behind", "too")
		for i := range l {
			l[i] = "written"
		}
		for other, l := range first {
			if other > at && !slices.Equal(l, want[other]) {
				t.Fatalf("the answers at the places %d and %d share memory", at, other)
			}
		}
		if !slices.EqualFunc(second, want, slices.Equal) || !slices.EqualFunc(answers(), want, slices.Equal) {
			t.Fatalf("the answer at place %d shares memory with one of another call", at)
		}
	}
}

// What is answered does not hang on what was handed in once the call has answered, nor that on the answer.
func TestAnswersDoNotShareWithWhatIsHandedIn(t *testing.T) {
	for _, x := range [][2]int{{1, 1}, {3, 3}, {3, 6}, {32, 33}} {
		k, n := x[0], x[1]
		data := texts(k, 4, 5)
		before := slices.Clone(data)
		all := encoded(t, data, n)
		shard := slices.Clone(all)
		clear(data)
		if !slices.Equal(all, shard) {
			t.Errorf("%s: its answer hangs on data", name("Encode", k, n))
		}
		copy(data, before)
		clear(all)
		if !slices.Equal(data, before) {
			t.Errorf("%s: data hang on its answer", name("Encode", k, n))
		}
		given := shards(shard, upTo(n))
		kept := slices.Clone(given)
		got, err := Decode(k, n, given)
		clear(given)
		wantTexts(t, name("Decode", k, n), got, err, before)
		copy(given, kept)
		clear(got)
		if !slices.Equal(given, kept) {
			t.Errorf("%s: its shards hang on its answer", name("Decode", k, n))
		}
	}
}

func TestAskedAgain(t *testing.T) {
	before := answers()
	for range 3 {
		Encode(texts(7, 3, 9), 200)
		Encode(nil, 1)
		Shard(texts(7, 3, 9), 20, 20)
		Decode(2, 5, []api.Shard{s(0, "a"), s(0, "b")})
		Decode(2, 5, []api.Shard{s(0, "a")})
		if !slices.EqualFunc(answers(), before, slices.Equal) {
			t.Fatal("others are answered when they are asked for again")
		}
	}
}

// R3: a list that is empty is the same, whether nil or not.
func TestEmptyLists(t *testing.T) {
	for _, n := range []int{-1, 0, 1, 255, 256} {
		for _, data := range [][]string{nil, {}, texts(3, 2, 1)[:0]} {
			wantNeither(t, data, n, api.ErrArg)
		}
	}
	for _, l := range [][]api.Shard{nil, {}, shards(texts(3, 2, 1), upTo(3))[:0]} {
		wantFault(t, 1, 1, l, api.ErrLess)
		wantFault(t, 0, 1, l, api.ErrArg)
		wantFault(t, 32, 255, l, api.ErrLess)
		wantFault(t, 33, 255, l, api.ErrArg)
	}
}
