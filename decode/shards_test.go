package decode_test

import (
	"iter"
	"math"
	"slices"
	"strconv"
	"strings"
	"testing"

	"lightship/api"
	"lightship/cut"
	"lightship/decode"
	"lightship/rs"
)

func shardsName(s string, k, repair int) string {
	return "Shards of " + strconv.Itoa(len(s)) + " bytes, " + strconv.Itoa(k) + ", " + strconv.Itoa(repair)
}

// wantShards asks Shards twice, though the first answer was written to.
func wantShards(t *testing.T, s string, k, repair int, want []string, m int, wantErr api.Errno) {
	t.Helper()
	for range 2 {
		got, many, err := decode.Shards(s, k, repair)
		if err != wantErr || many != m || !slices.Equal(got, want) {
			t.Fatalf("%s: %d texts, %d, error %d, %.100q, want %d, %d, %d, %.100q", shardsName(s, k, repair), len(got), many, err, got, len(want), m, wantErr, want)
		}
		for i := range got {
			got[i] = "spoiled"
		}
	}
}

// reckoned holds Shards against the chapters' words.
func reckoned(t *testing.T, s string, k, repair int) {
	t.Helper()
	want, m, err := plainShards(s, k, repair)
	if err != api.OK || m != min(k, len(s)) || len(want) != m+repair {
		t.Fatalf("%s: %d shards, %d, error %d are reckoned out", shardsName(s, k, repair), len(want), m, err)
	}
	wantShards(t, s, k, repair, want, m, api.OK)
}

func wantNoShards(t *testing.T, s string, k, repair int, want api.Errno) {
	t.Helper()
	wantShards(t, s, k, repair, nil, 0, want)
}

// Promise 20.1: Shards, by answers written out.

// laid are texts, k and repair, and what is told of them.
func laid() []struct {
	s         string
	k, repair int
	m         int
	want      []string
} {
	return []struct {
		s         string
		k, repair int
		m         int
		want      []string
	}{
		{"ab", 4, 1, 2, []string{"a", "b", "k"}}, // the chapter's example
		{"ab", 4, 0, 2, []string{"a", "b"}},
		{"ab", 2, 1, 2, []string{"a", "b", "k"}},
		{"ab", 1, 0, 1, []string{"ab"}},
		{"a", 1, 0, 1, []string{"a"}},
		{"a", 1, 3, 1, []string{"a", "a", "\xbe", "\xd4"}},
		{"a", 2, 0, 1, []string{"a"}},
		{"a", 32, 2, 1, []string{"a", "a", "\xbe"}},
		{"\x01", 1, 3, 1, []string{"\x01", "\x01", "\x8e", "\xf4"}},
		{"abc", 2, 2, 2, []string{"ab", "c\x00", "\x9f1", "k\xd5"}},
		{"abcdef", 2, 3, 2, []string{"abc", "def", "i\x12\x9d", "\xe6i\x12", "\x12|\xcf"}},
		{"abcde", 4, 2, 4, []string{"ab", "cd", "e\x00", "\x00\x00", "\xdf\xdb", "\x8a\xa1"}},
		{"hello", 5, 1, 5, []string{"h", "e", "l", "l", "o", "\x8d"}},
		{"hello", 6, 1, 5, []string{"h", "e", "l", "l", "o", "\x8d"}},
		{"hello", 32, 2, 5, []string{"h", "e", "l", "l", "o", "\x8d", "N"}},
		{"hello world", 3, 2, 3, []string{"hell", "o wo", "rld\x00", "\x18_\xf5\x9d", "\xe5\x15\xe5\xf3"}},
		{"\x00\xff\x80", 2, 2, 2, []string{"\x00\xff", "\x80\x00", "\x8b\xf1", "@U"}},
		{"\x00\x00", 2, 2, 2, []string{"\x00", "\x00", "\x00", "\x00"}},
		{"lightship", 4, 3, 4, []string{"lig", "hts", "hip", "\x00\x00\x00", "F/\x8e", "\xc0||", "\xce\x02\xb4"}},
	}
}

func TestShardsByHand(t *testing.T) {
	for _, x := range laid() {
		wantShards(t, x.s, x.k, x.repair, x.want, x.m, api.OK)
	}
}

// What the tests reckon out is held against the same answers.
func TestPlainShardsByHand(t *testing.T) {
	for _, x := range laid() {
		if got, m, err := plainShards(x.s, x.k, x.repair); err != api.OK || m != x.m || !slices.Equal(got, x.want) {
			t.Errorf("%s: %q, %d, error %d, want %q, %d, OK", shardsName(x.s, x.k, x.repair), got, m, err, x.want, x.m)
		}
	}
}

// Promise 20.1: which k, repair and texts there may not be.

// noRepairs are those that there may not be of that k.
func noRepairs(k int) []int {
	l := append(farInts(), -255, -k, -2, -1, 256-k, 257-k, 254, 255, 256, 512-k, 1<<32+1)
	return slices.DeleteFunc(l, func(repair int) bool { return repair >= 0 && repair <= 255-k })
}

// Whatever the text is: k and repair are asked ahead of it.
func TestShardsErrArg(t *testing.T) {
	texts := []string{"", "a", "ab", text(32, 1), text(1024, 1), text(1025, 1), text(32768, 1), text(32769, 1), text(33792, 1), text(33793, 1)}
	for _, s := range texts {
		for _, k := range noData() {
			for _, repair := range append(farInts(), -1, 0, 1, 2, 222, 223, 224, 254, 255, 256, 255-k, 256-k) {
				wantNoShards(t, s, k, repair, api.ErrArg)
			}
		}
		for k := 1; k <= 32; k++ {
			for _, repair := range noRepairs(k) {
				wantNoShards(t, s, k, repair, api.ErrArg)
			}
		}
	}
}

func TestShardsErrLong(t *testing.T) {
	for k := 1; k <= 32; k++ {
		for _, repair := range []int{0, 1, 2, 100, 254 - k, 255 - k} {
			for _, size := range []int{0, k*1024 + 1, k*1024 + 2, k*1024 + k, k*1024 + 256, k * 1025, k * 2048, 33*1024 + 1, 65536 + k, 1 << 17} {
				if size == 0 || size > k*1024 {
					wantNoShards(t, nulls(size), k, repair, api.ErrLong)
				}
			}
		}
	}
}

func TestShardsErrorsByHand(t *testing.T) {
	long := text(32769, 2)
	for _, x := range []struct {
		s         string
		k, repair int
		want      api.Errno
	}{
		{"ab", 0, 0, 1}, {"ab", -1, 1, 1}, {"ab", 33, 1, 1}, {"ab", 1, -1, 1}, {"ab", 1, 255, 1}, {"ab", 32, 224, 1}, {"ab", 2, 254, 1},
		{"ab", math.MaxInt, 0, 1}, {"ab", math.MinInt, 0, 1}, {"ab", 1, math.MaxInt, 1}, {"ab", 1, math.MinInt, 1}, {"ab", math.MinInt, math.MaxInt, 1}, {"ab", math.MaxInt, math.MinInt, 1},
		{"", 0, 0, 1}, {"", 33, 1, 1}, {"", 1, -1, 1}, {"", 1, 255, 1}, {long, 33, 0, 1}, {long, 32, 224, 1}, {long, 0, 0, 1},
		{"", 1, 0, 3}, {"", 32, 223, 3}, {"", 1, 254, 3}, {long, 32, 0, 3}, {long, 32, 223, 3}, {long[:1025], 1, 0, 3}, {long[:1025], 1, 254, 3}, {long[:2049], 2, 1, 3}, {long[:31745], 31, 1, 3},
	} {
		wantNoShards(t, x.s, x.k, x.repair, x.want)
	}
}

// Promise 20.1: which shards there are.

// Each k, at the edges of how many bytes there may be, and with no repair, some, and the most.
func TestShardsAtTheEdges(t *testing.T) {
	for k := 1; k <= 32; k++ {
		for _, size := range []int{1, k - 1, k, k + 1, 2*k - 1, 2 * k, 2*k + 1} {
			if size > 0 {
				for _, repair := range []int{0, 1, 2, k} {
					reckoned(t, text(size, uint64(k)), k, repair)
				}
			}
		}
		for _, repair := range []int{254 - k, 255 - k} {
			reckoned(t, text(k+1, uint64(k)), k, repair)
		}
		for _, size := range []int{k*1024 - 1, k * 1024} {
			reckoned(t, text(size, uint64(k)), k, 0)
			reckoned(t, text(size, uint64(k)), k, 1)
		}
	}
	for _, k := range []int{1, 2, 31, 32} {
		reckoned(t, text(k*1024, 3), k, 255-k)
		reckoned(t, text(k*1024-1, 4), k, 254-k)
	}
}

// How many of them are data: all lengths up to k, and some more.
func TestShardsHowManyAreData(t *testing.T) {
	for k := 1; k <= 32; k++ {
		for size := 1; size <= k+3; size++ {
			got, m, err := decode.Shards(nulls(size), k, 2)
			if err != api.OK || m != min(size, k) || len(got) != m+2 {
				t.Fatalf("%s: %d shards, %d, error %d", shardsName(nulls(size), k, 2), len(got), m, err)
			}
			for i, shard := range got {
				if want := (size + m - 1) / m; shard != nulls(want) {
					t.Fatalf("%s: shard %d is %q, want %d bytes 0", shardsName(nulls(size), k, 2), i, shard, want)
				}
			}
		}
	}
}

// Each repair that there may be.
func TestShardsOfEachRepair(t *testing.T) {
	for _, k := range []int{1, 2, 3, 31, 32} {
		// Of 31 and 32 there are fewer data than there may be, which is told sooner.
		s := text(min(k+k/2+1, 7), 5)
		all, m, err := plainShards(s, k, 255-k)
		if err != api.OK {
			t.Fatalf("%s: error %d is reckoned out", shardsName(s, k, 255-k), err)
		}
		for repair := range 256 - k {
			wantShards(t, s, k, repair, all[:m+repair], m, api.OK)
		}
	}
}

// Each length that there may be of one and of two, and texts of all kinds.
func TestShardsOfEachLength(t *testing.T) {
	for k := 1; k <= 2; k++ {
		for size := 1; size <= k*1024; size++ {
			reckoned(t, text(size, uint64(size)), k, 1)
		}
	}
	for _, x := range sizes() {
		for i, s := range kinds(x[2]) {
			if i == 0 || x[2] <= 5000 {
				reckoned(t, s, x[0], x[1])
			}
		}
	}
}

// They are what layers 5 and 6 tell, too.
func TestShardsByLayers(t *testing.T) {
	for _, x := range sizes() {
		k, repair, s := x[0], x[1], text(x[2], 6)
		m := min(k, len(s))
		data, err := cut.Cut(s, m)
		if err != api.OK {
			t.Fatalf("Cut: %d", err)
		}
		want, err := rs.Encode(data, m+repair)
		if err != api.OK {
			t.Fatalf("Encode: %d", err)
		}
		wantShards(t, s, k, repair, want, m, api.OK)
	}
}

// Promise 20.2: of any as many shards as are data Do tells the text.

// choices are all rising lists of many of the numbers from 0 to n - 1. Each is good till the next one is asked for.
func choices(many, n int) iter.Seq[[]int] {
	return func(yield func([]int) bool) {
		l := upTo(many)
		for yield(l) {
			last := many - 1
			for last >= 0 && l[last] == n-many+last {
				last--
			}
			if last < 0 {
				return
			}
			l[last]++
			for i := last + 1; i < many; i++ {
				l[i] = l[i-1] + 1
			}
		}
	}
}

// orders hands f all orders of l from place on.
func orders(l []int, place int, f func(l []int)) {
	if place == len(l) {
		f(l)
		return
	}
	for i := place; i < len(l); i++ {
		l[place], l[i] = l[i], l[place]
		orders(l, place+1, f)
		l[place], l[i] = l[i], l[place]
	}
}

// TestChoicesAreAll: how many choices and orders there are is well known.
func TestChoicesAreAll(t *testing.T) {
	for _, x := range [][3]int{{0, 4, 1}, {1, 1, 1}, {1, 5, 5}, {2, 5, 10}, {5, 5, 1}, {3, 9, 84}, {5, 10, 252}} {
		seen := map[string]bool{}
		for l := range choices(x[0], x[1]) {
			told := ""
			for _, index := range l {
				told += strconv.Itoa(index) + " "
			}
			seen[told] = true
		}
		if len(seen) != x[2] {
			t.Errorf("%d of %d: %d choices, want %d", x[0], x[1], len(seen), x[2])
		}
	}
	many := 0
	orders(upTo(4), 0, func([]int) { many++ })
	if many != 24 {
		t.Errorf("%d orders of 4, want 24", many)
	}
}

// told is a text with the shards that Shards tells of it.
func told(t *testing.T, s string, k, repair int) block {
	t.Helper()
	l, m, err := decode.Shards(s, k, repair)
	if err != api.OK || len(l) != m+repair {
		t.Fatalf("%s: %d shards, %d, error %d", shardsName(s, k, repair), len(l), m, err)
	}
	return block{s, m, l}
}

// few are k, repair, and how many bytes a text has, of which all choices are gone over.
func few() [][3]int {
	var l [][3]int
	for k := 1; k <= 5; k++ {
		for repair := range 5 {
			for _, size := range []int{1, k - 1, k, k + 1, 2*k + 1, 3 * k} {
				if size > 0 {
					l = append(l, [3]int{k, repair, size})
				}
			}
		}
	}
	return append(l, [3]int{1, 254, 3}, [3]int{2, 60, 5}, [3]int{3, 20, 8}, [3]int{8, 4, 20}, [3]int{32, 1, 40}, [3]int{31, 1, 62})
}

func TestAllChoices(t *testing.T) {
	for _, x := range few() {
		for _, s := range []string{text(x[2], 7), text(x[2]-x[2]/2, 8) + nulls(x[2]/2), nulls(x[2])} {
			b := told(t, s, x[0], x[1])
			for l := range choices(b.m, len(b.shards)) {
				wantText(t, b.job(l), s)
				falling := slices.Clone(l)
				slices.Reverse(falling)
				wantText(t, b.job(falling), s)
			}
		}
	}
}

// All orders of all choices.
func TestAllOrders(t *testing.T) {
	for _, x := range [][3]int{{1, 3, 4}, {2, 3, 3}, {3, 3, 7}, {4, 2, 9}, {4, 3, 16}, {5, 1, 11}, {6, 1, 2}} {
		s := text(x[2], 9)
		b := told(t, s, x[0], x[1])
		for l := range choices(b.m, len(b.shards)) {
			orders(slices.Clone(l), 0, func(l []int) { wantText(t, b.job(l), s) })
		}
	}
}

// One fewer: no text, also where those that are there come many times.
func TestOneFewer(t *testing.T) {
	for _, x := range few() {
		s := text(x[2], 10)
		b := told(t, s, x[0], x[1])
		for l := range choices(b.m-1, len(b.shards)) {
			wantNone(t, b.job(l), api.ErrLess)
			wantNone(t, b.job(slices.Repeat(l, 3)), api.ErrLess)
		}
	}
}

// Where there are many choices: some by chance, and those of repair alone, and all but one of them.
func TestSomeChoices(t *testing.T) {
	for _, x := range [][3]int{
		{6, 10, 6}, {7, 248, 50}, {8, 8, 8192}, {15, 16, 15}, {16, 16, 17}, {16, 239, 160}, {31, 31, 30}, {31, 224, 93},
		{32, 1, 32767}, {32, 32, 31}, {32, 32, 32}, {32, 33, 33}, {32, 64, 1000}, {32, 223, 32}, {32, 223, 64}, {32, 40, 32768},
	} {
		s := text(x[2], 11)
		b, d := told(t, s, x[0], x[1]), dice(x[2])
		times := 40
		if x[2] > 1000 {
			times = 2
		}
		for range times {
			l := d.unlikes(b.m, len(b.shards))
			wantText(t, b.job(l), s)
			wantText(t, b.job(repeated(l, &d)), s)
			wantNone(t, b.job(l[1:]), api.ErrLess)
			wantNone(t, b.job(l[:b.m-1]), api.ErrLess)
		}
		for _, l := range b.choices()[:4] {
			wantText(t, b.job(l), s)
		}
	}
}

// Each length of text comes back, by repair alone: none is longer or shorter by then.
func TestEachLengthComesBack(t *testing.T) {
	for _, x := range [][2]int{{1, 1024}, {2, 1100}, {3, 300}, {5, 200}, {32, 100}} {
		k := x[0]
		for size := 1; size <= x[1]; size++ {
			s := text(size, uint64(k))
			if size%3 == 0 {
				s = s[:size-1] + "\x00"
			}
			b := told(t, s, k, min(k, size))
			wantText(t, b.job(upTo(len(b.shards))[b.m:]), s)
			wantText(t, b.job(upTo(b.m)), s)
		}
	}
	// Texts that are like one another but for the bytes 0 behind are told apart by Len alone.
	for many := 1; many <= 40; many++ {
		s := "a" + strings.Repeat("\x00", many)
		b := told(t, s, 4, 4)
		wantText(t, b.job(upTo(len(b.shards))[len(b.shards)-b.m:]), s)
	}
}
