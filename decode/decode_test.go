package decode_test

import (
	"math"
	"os"
	"slices"
	"strconv"
	"strings"
	"sync"
	"testing"
	"time"

	"lightship/api"
	"lightship/decode"
)

// TestMain ends the tests, if a call does not end.
func TestMain(m *testing.M) {
	time.AfterFunc(5*time.Minute, func() { panic("a call does not end") })
	os.Exit(m.Run())
}

// dice are numbers in no order, another row for each seed.
type dice uint64

// below is a number from 0 to n - 1.
func (d *dice) below(n int) int {
	*d = *d*6364136223846793005 + 1442695040888963407
	return int(uint64(*d)>>32) % n
}

// of is one of l.
func (d *dice) of(l []int) int { return l[d.below(len(l))] }

// unlikes are many of the numbers from 0 to n - 1 in no order, no number twice.
func (d *dice) unlikes(many, n int) []int {
	l := upTo(n)
	for i := range l {
		other := d.below(n)
		l[i], l[other] = l[other], l[i]
	}
	return l[:many]
}

// upTo are the numbers from 0 to n - 1.
func upTo(n int) []int {
	l := make([]int, n)
	for i := range l {
		l[i] = i
	}
	return l
}

// text is a text of so many bytes in no order, another one for each seed; none of them is 0.
func text(size int, seed uint64) string {
	d := dice(seed)
	made := make([]byte, size)
	for i := range made {
		made[i] = byte(1 + d.below(255))
	}
	return string(made)
}

// nulls is a text of so many bytes, all 0.
func nulls(size int) string { return strings.Repeat("\x00", size) }

// kinds are texts of so many bytes: in no order, all alike, and with bytes 0 ahead, behind, or all.
func kinds(size int) []string {
	return []string{
		text(size, uint64(size)), strings.Repeat("\xff", size), nulls(size),
		text(size-size/2, 1) + nulls(size/2), nulls(size/2) + text(size-size/2, 2), text(1, 3) + nulls(size-1), nulls(size-1) + text(1, 4),
	}
}

// key is one of many keys, also of such as no endpoint has.
func key(n int) api.Key {
	l := []api.Key{{Stream: 7, Block: 9}, {}, {Stream: 255, Block: 1<<32 - 1}, {Stream: -1, Block: 1 << 31}, {Stream: math.MaxInt, Block: 1}, {Stream: math.MinInt, Block: 3}, {Stream: 256}, {Block: 5}}
	return l[n%len(l)]
}

// block is a text, how many of its shards are data, and all of them, as they are reckoned out.
type block struct {
	s      string
	m      int
	shards []string
}

func newBlock(s string, k, repair int) block {
	l, m, err := plainShards(s, k, repair)
	if err != api.OK {
		panic("there is no such block")
	}
	return block{s, m, l}
}

// job is that of the shards with these Indexes, in their order.
func (b block) job(indexes []int) api.Job {
	j := api.Job{Key: key(len(b.s)), K: b.m, N: len(b.shards), Len: len(b.s)}
	for _, index := range indexes {
		j.Shards = append(j.Shards, s(index, b.shards[index]))
	}
	return j
}

func s(index int, body string) api.Shard { return api.Shard{Index: index, Body: body} }

// with are the same shards with another one at that place, where the others stand behind it.
func with(l []api.Shard, place int, x api.Shard) []api.Shard {
	return slices.Insert(slices.Clone(l), place, x)
}

// jobText is a job as it is told, and short.
func jobText(j api.Job) string {
	told := []string{strconv.Itoa(j.Key.Stream) + "/" + strconv.FormatUint(uint64(j.Key.Block), 10), "K " + strconv.Itoa(j.K), "N " + strconv.Itoa(j.N), "Len " + strconv.Itoa(j.Len)}
	for _, x := range j.Shards[:min(len(j.Shards), 40)] {
		told = append(told, strconv.Itoa(x.Index)+": "+strconv.Itoa(len(x.Body))+" bytes "+strconv.Quote(x.Body[:min(len(x.Body), 8)]))
	}
	return "{" + strings.Join(told, ", ") + "}"
}

// resultText is a result as it is told, and short.
func resultText(r api.Result) string {
	return strconv.Itoa(r.Key.Stream) + "/" + strconv.FormatUint(uint64(r.Key.Block), 10) + ", " + strconv.Itoa(len(r.Body)) + " bytes " + strconv.Quote(r.Body[:min(len(r.Body), 40)]) + ", error " + strconv.Itoa(int(r.Err))
}

// do asks Do twice, and sees that both answers are the same, and that the job is what it was, also behind its list's end.
func do(t *testing.T, j api.Job) api.Result {
	t.Helper()
	list := j.Shards[:cap(j.Shards)]
	before := slices.Clone(list)
	got, again := decode.Do(j), decode.Do(j)
	if got != again {
		t.Fatalf("Do(%s): %s, and once more %s", jobText(j), resultText(got), resultText(again))
	}
	if !slices.Equal(list, before) {
		t.Fatalf("Do(%s) changed the shards", jobText(j))
	}
	return got
}

func wantDo(t *testing.T, j api.Job, want api.Result) {
	t.Helper()
	if got := do(t, j); got != want {
		t.Fatalf("Do(%s): %s, want %s", jobText(j), resultText(got), resultText(want))
	}
}

// wantText: Do tells the job's Key, and this text.
func wantText(t *testing.T, j api.Job, body string) {
	t.Helper()
	wantDo(t, j, api.Result{Key: j.Key, Body: body})
}

// wantNone: Do tells the job's Key, and this error, and no text.
func wantNone(t *testing.T, j api.Job, err api.Errno) {
	t.Helper()
	wantDo(t, j, api.Result{Key: j.Key, Err: err})
}

// farInts are the greatest and the least ints, and those whose last 8, 16 or 32 bits are small.
func farInts() []int {
	return []int{math.MaxInt, math.MaxInt - 1, math.MinInt, math.MinInt + 1, -1 << 62, 1 << 62, -1 << 32, 1 << 32, -1<<32 + 2, 1<<32 + 2, -1 << 31, 1 << 31, 1 << 16, 1<<16 + 2, 258, -254}
}

// noData are K of which there is no job.
func noData() []int { return append(farInts(), -33, -32, -2, -1, 0, 33, 34, 64, 255, 256, 257) }

// noNumbers are N that there may not be of that K.
func noNumbers(k int) []int { return append(farInts(), -k, -1, 0, k-1, 256, 257, 256+k, 512) }

// sizes are k, repair and how many bytes a text has: small ones, and those at the edges.
func sizes() [][3]int {
	l := [][3]int{
		{1, 0, 1}, {1, 0, 1024}, {1, 3, 1024}, {1, 254, 1}, {1, 254, 1023}, {2, 0, 2048}, {2, 253, 1}, {2, 253, 5}, {16, 8, 1000}, {31, 1, 31}, {31, 224, 63},
		{32, 0, 1}, {32, 0, 31}, {32, 0, 32}, {32, 0, 33}, {32, 1, 32768}, {32, 32, 32767}, {32, 223, 1}, {32, 223, 32}, {32, 223, 100}, {32, 8, 4000},
	}
	for k := 1; k <= 6; k++ {
		for _, size := range []int{1, k - 1, k, k + 1, 2*k - 1, 2 * k, 3*k + 1} {
			if size > 0 {
				l = append(l, [3]int{k, (k + size) % 5, size})
			}
		}
	}
	return l
}

// Promise 20.1: Do, by answers written out.

// answered are jobs, and what is told of each.
type answered []struct {
	j    api.Job
	body string
	err  api.Errno
}

func (l *answered) add(k, n, length int, body string, err api.Errno, shards ...api.Shard) {
	*l = append(*l, answered{{api.Job{Key: key(len(*l)), K: k, N: n, Len: length, Shards: shards}, body, err}}...)
}

// written are jobs whose answers are written out.
func written() answered {
	var l answered
	l.ofTheExample()
	l.ofOne()
	l.ofSome()
	return l
}

// ofTheExample: what the chapter's example makes of ab.
func (l *answered) ofTheExample() {
	add := l.add
	add(2, 3, 2, "ab", 0, s(0, "a"), s(1, "b"))
	add(2, 3, 2, "ab", 0, s(1, "b"), s(0, "a"))
	add(2, 3, 2, "ab", 0, s(0, "a"), s(2, "k"))
	add(2, 3, 2, "ab", 0, s(2, "k"), s(0, "a"))
	add(2, 3, 2, "ab", 0, s(1, "b"), s(2, "k"))
	add(2, 3, 2, "ab", 0, s(2, "k"), s(2, "k"), s(1, "b"), s(2, "k"))
	add(2, 3, 2, "ab", 0, s(0, "a"), s(1, "b"), s(2, "k"))
	add(2, 255, 2, "ab", 0, s(2, "k"), s(1, "b"))
	add(2, 3, 1, "", 5, s(0, "a"), s(1, "b"))
	add(2, 3, 0, "", 5, s(2, "k"), s(1, "b"))
	add(2, 3, 3, "", 2, s(0, "a"), s(1, "b"))
	add(2, 3, -1, "", 2, s(0, "a"), s(1, "b"))
	add(2, 3, 2, "", 15, s(2, "k"))
	add(2, 3, 2, "", 15, s(2, "k"), s(2, "k"), s(2, "k"))
	add(2, 3, 2, "", 16, s(2, "k"), s(2, "l"))
	add(2, 3, 2, "", 16, s(2, "k"), s(0, "ab"))
	add(2, 3, 2, "", 3, s(2, "k"), s(0, ""))
	add(2, 3, 2, "", 2, s(2, "k"), s(3, "a"))
	add(2, 3, 2, "", 2, s(-1, "k"), s(0, "a"))
	add(2, 1, 2, "", 1, s(0, "a"), s(1, "b"))
	add(0, 3, 0, "", 1, s(0, "a"), s(1, "b"))
	add(33, 34, 2, "", 1, s(0, "a"), s(1, "b"))
	add(2, 256, 2, "", 1, s(0, "a"), s(1, "b"))
}

// ofOne: one shard is data, and each shard but those of Index 0 and 1 has other bytes than that.
func (l *answered) ofOne() {
	add := l.add
	add(1, 4, 1, "a", 0, s(0, "a"))
	add(1, 4, 1, "a", 0, s(1, "a"))
	add(1, 4, 1, "a", 0, s(2, "\xbe"))
	add(1, 4, 1, "a", 0, s(3, "\xd4"))
	add(1, 4, 1, "\x00", 0, s(3, "\x00"))
	add(1, 4, 0, "", 0, s(3, "\x00"))
}

// ofSome: bytes 0 behind are told as far as Len goes.
func (l *answered) ofSome() {
	add := l.add
	add(2, 4, 3, "abc", 0, s(3, "k\xd5"), s(2, "\x9f1"))
	add(2, 4, 4, "abc\x00", 0, s(3, "k\xd5"), s(2, "\x9f1"))
	add(2, 4, 2, "", 5, s(3, "k\xd5"), s(2, "\x9f1"))
	add(2, 4, 5, "", 2, s(3, "k\xd5"), s(2, "\x9f1"))
	add(4, 6, 5, "abcde", 0, s(5, "\x8a\xa1"), s(4, "\xdf\xdb"), s(1, "cd"), s(3, "\x00\x00"))
	add(4, 6, 5, "abcde", 0, s(0, "ab"), s(1, "cd"), s(4, "\xdf\xdb"), s(5, "\x8a\xa1"))
	add(4, 6, 8, "abcde\x00\x00\x00", 0, s(2, "e\x00"), s(3, "\x00\x00"), s(0, "ab"), s(1, "cd"))
	add(3, 5, 11, "hello world", 0, s(4, "\xe5\x15\xe5\xf3"), s(2, "rld\x00"), s(3, "\x18_\xf5\x9d"))
	add(3, 5, 12, "hello world\x00", 0, s(4, "\xe5\x15\xe5\xf3"), s(0, "hell"), s(2, "rld\x00"))
	add(4, 7, 9, "lightship", 0, s(6, "\xce\x02\xb4"), s(5, "\xc0||"), s(4, "F/\x8e"), s(3, "\x00\x00\x00"))
	// No byte is not 0.
	add(2, 4, 0, "", 0, s(3, "\x00"), s(2, "\x00"))
	add(2, 4, 1, "\x00", 0, s(3, "\x00"), s(2, "\x00"))
	add(2, 4, 2, "\x00\x00", 0, s(3, "\x00"), s(2, "\x00"))
	add(2, 4, 3, "", 2, s(3, "\x00"), s(2, "\x00"))
}

func TestDoByHand(t *testing.T) {
	for _, x := range written() {
		wantDo(t, x.j, api.Result{Key: x.j.Key, Body: x.body, Err: x.err})
	}
}

// What the tests reckon out is held against the same answers.
func TestPlainDoByHand(t *testing.T) {
	for _, x := range written() {
		if got, want := plainDo(x.j), (api.Result{Key: x.j.Key, Body: x.body, Err: x.err}); got != want {
			t.Errorf("%s: %s, want %s", jobText(x.j), resultText(got), resultText(want))
		}
	}
}

func TestDoOfTheZeroJob(t *testing.T) {
	wantDo(t, api.Job{}, api.Result{Err: api.ErrArg})
	wantDo(t, api.Job{Shards: []api.Shard{}}, api.Result{Err: api.ErrArg})
}

// Promise 20.1: Do of jobs that are well.

// repeated are the numbers of l, each of them at some places more.
func repeated(l []int, d *dice) []int {
	made := slices.Clone(l)
	for range 1 + d.below(2*len(l)) {
		made = slices.Insert(made, 1+d.below(len(made)), l[d.below(len(l))])
	}
	return made
}

// choices are lists of Indexes that have enough: data alone, repair alone, both, rising, falling, in no order, some twice, and more than are needed.
func (b block) choices() [][]int {
	m, n := b.m, len(b.shards)
	all, d := upTo(n), dice(n)
	falling := slices.Clone(all)
	slices.Reverse(falling)
	l := [][]int{all[:m], falling[n-m:], all[n-m:], falling[:m], all, falling, all[:min(m+1, n)], d.unlikes(m, n), d.unlikes(n, n), d.unlikes(min(m+1, n), n)}
	for _, indexes := range slices.Clone(l) {
		l = append(l, repeated(indexes, &d))
	}
	return l
}

func TestDoOfAllSizes(t *testing.T) {
	for _, x := range sizes() {
		k, repair, size := x[0], x[1], x[2]
		for i, body := range kinds(size) {
			b := newBlock(body, k, repair)
			if i > 0 && size > 5000 {
				continue
			}
			for _, indexes := range b.choices() {
				wantText(t, b.job(indexes), body)
			}
		}
	}
}

// Whatever the Key is, it is told, and nothing else hangs on it.
func TestDoTellsTheKey(t *testing.T) {
	good, bad := newBlock("hello", 3, 2).job([]int{4, 0, 3}), newBlock("hello", 3, 2).job([]int{4, 0})
	var keys []api.Key
	for _, stream := range append(farInts(), -1, 0, 1, 2, 127, 128, 254, 255, 256) {
		for _, number := range []uint32{0, 1, 2, 255, 256, 1<<16 - 1, 1 << 16, 1<<31 - 1, 1 << 31, 1<<32 - 2, 1<<32 - 1} {
			keys = append(keys, api.Key{Stream: stream, Block: number})
		}
	}
	for _, k := range keys {
		good.Key, bad.Key = k, k
		wantText(t, good, "hello")
		wantNone(t, bad, api.ErrLess)
		wantNone(t, api.Job{Key: k}, api.ErrArg)
		far := good
		far.Len = 7
		wantNone(t, far, api.ErrRange)
		far.Len = 4
		wantNone(t, far, api.ErrForm)
	}
}

// All K and N that there may be.
func TestDoOfEachNumber(t *testing.T) {
	for k := 1; k <= 32; k++ {
		body := text(2*k-k/2, uint64(k))
		b := newBlock(body, k, 255-k)
		for n := k; n <= 255; n++ {
			// What a shard is does not hang on how many there are.
			few := block{body, b.m, b.shards[:n]}
			indexes := upTo(k)
			if n > k {
				indexes[n%k] = n - 1
			}
			wantText(t, few.job(indexes), body)
		}
	}
}

// A shard of each Index.
func TestDoOfEachIndex(t *testing.T) {
	for _, k := range []int{1, 2, 31, 32} {
		body := text(3*k, 5)
		b := newBlock(body, k, 255-k)
		for index := range 255 {
			l := []int{index}
			for other := 0; len(l) < k; other++ {
				if other != index {
					l = append(l, other)
				}
			}
			wantText(t, b.job(l), body)
		}
	}
}

// A Len of each number, of texts with bytes 0 behind: none that are not 0 are left out.
func TestDoOfEachLen(t *testing.T) {
	for _, x := range [][3]int{{1, 2, 1}, {1, 2, 9}, {2, 1, 7}, {3, 3, 12}, {4, 2, 5}, {5, 3, 3}, {32, 1, 64}, {1, 1, 1024}, {2, 2, 1025}} {
		k, repair, size := x[0], x[1], x[2]
		for _, last := range []int{0, 1, size / 2, size - 1, size} {
			if last > size {
				continue
			}
			b := newBlock(text(last, 6)+nulls(size-last), k, repair)
			j := b.job(upTo(len(b.shards))[len(b.shards)-b.m:])
			whole := strings.Join(b.shards[:b.m], "")
			for length := -3; length <= len(whole)+3; length++ {
				j.Len = length
				switch {
				case length < 0 || length > len(whole):
					wantNone(t, j, api.ErrRange)
				case length < last:
					wantNone(t, j, api.ErrForm)
				default:
					wantText(t, j, whole[:length])
				}
			}
		}
	}
}

// With more than are needed the first unlike ones alone tell the text: those behind may be of another block.
func TestDoByTheFirst(t *testing.T) {
	for _, x := range [][3]int{{1, 2, 1}, {1, 254, 3}, {2, 2, 5}, {3, 6, 9}, {4, 8, 16}, {16, 24, 32}, {32, 40, 64}} {
		b := newBlock(text(x[2], 7), x[0], x[1])
		other := newBlock(text(x[2], 8), x[0], x[1])
		for seed := range dice(6) {
			d := seed
			indexes := d.unlikes(len(b.shards), len(b.shards))
			first, behind := b.job(indexes[:b.m]), other.job(indexes[b.m:])
			j := first
			j.Shards = slices.Concat(first.Shards, first.Shards[:1], behind.Shards, behind.Shards[:1], first.Shards)
			wantText(t, j, b.s)
		}
	}
}

// Shards of no block: what is told is a text whose shards they are, if it has bytes 0 behind Len.
func TestDoOfShardsOfNoBlock(t *testing.T) {
	for _, x := range sizes() {
		k, n, size := x[0], x[0]+x[1], min(x[2], 100)
		d := dice(n)
		j := api.Job{Key: key(k), K: k, N: n, Len: k * size}
		for i, index := range d.unlikes(k, n) {
			j.Shards = append(j.Shards, s(index, text(size, uint64(i+k))))
		}
		want := plainDo(j)
		if want.Err != api.OK || len(want.Body) != k*size {
			t.Fatalf("%s: %s is reckoned out", jobText(j), resultText(want))
		}
		wantDo(t, j, want)
	}
}

// Promise 20.1: Do of jobs that are none, by each error.

// lists are shards of all kinds, well and not well.
func lists() [][]api.Shard {
	a, b := s(0, "abc"), s(1, "def")
	return [][]api.Shard{
		nil, {}, {a}, {a, b}, {b, a, b}, {s(-1, "abc")}, {s(255, "abc")}, {s(256, "abc")}, {s(0, "")}, {s(0, text(1025, 1))}, {a, s(0, "abd")}, {a, s(1, "de")}, make([]api.Shard, 3),
		newBlock(text(64, 1), 32, 0).job(upTo(32)).Shards, newBlock(text(64, 1), 32, 223).job(upTo(255)).Shards,
	}
}

// No other K or N is taken, whatever the rest is.
func TestDoErrArg(t *testing.T) {
	lengths := append(farInts(), -1, 0, 1, 3, 6, 64, 65)
	ask := func(k, n, from int) {
		for i, list := range lists() {
			wantNone(t, api.Job{Key: key(i), K: k, N: n, Len: lengths[(from+i)%len(lengths)], Shards: list}, api.ErrArg)
		}
	}
	for i, k := range noData() {
		for _, n := range append(farInts(), k, -1, 0, 1, 2, 31, 32, 33, 34, 254, 255, 256) {
			ask(k, n, i)
		}
	}
	for k := 1; k <= 32; k++ {
		for _, n := range noNumbers(k) {
			ask(k, n, k)
		}
		for n := range k {
			ask(k, n, k)
		}
	}
}

// Just those of 1 to 32, and of as many to 255, are taken.
func TestDoArgAtTheEdges(t *testing.T) {
	for _, x := range []struct {
		k, n int
		want api.Errno
	}{
		{0, 0, 1}, {0, 1, 1}, {0, 255, 1}, {1, 0, 1}, {1, 1, 0}, {1, 2, 0}, {1, 254, 0}, {1, 255, 0}, {1, 256, 1}, {2, 1, 1}, {2, 2, 0}, {2, 255, 0}, {2, 256, 1},
		{31, 30, 1}, {31, 31, 0}, {31, 255, 0}, {32, 31, 1}, {32, 32, 0}, {32, 33, 0}, {32, 254, 0}, {32, 255, 0}, {32, 256, 1}, {33, 32, 1}, {33, 33, 1}, {33, 34, 1}, {33, 255, 1},
		{255, 255, 1}, {256, 256, 1}, {-1, 1, 1}, {-1, -1, 1}, {1, -1, 1}, {math.MaxInt, math.MaxInt, 1}, {math.MinInt, math.MinInt, 1}, {1, math.MaxInt, 1}, {1, math.MinInt, 1}, {math.MinInt, 255, 1}, {math.MaxInt, 255, 1},
	} {
		body := text(33, 9)
		j := api.Job{Key: key(x.k & 7), K: x.k, N: x.n}
		for i := range 33 {
			if i < x.n || x.want != api.OK {
				j.Shards = append(j.Shards, s(i, body[i:i+1]))
			}
		}
		// Of more than are needed those behind are of no block.
		if x.want != api.OK {
			wantNone(t, j, x.want)
			continue
		}
		j.Len = x.k
		wantText(t, j, body[:x.k])
	}
}

// Each fault at each place of lists that are well but for that: it is told ahead of all that is asked later.
func TestDoOneFault(t *testing.T) {
	for _, x := range [][3]int{{1, 0, 1}, {1, 2, 3}, {2, 3, 4}, {3, 0, 7}, {4, 5, 8}, {32, 0, 32}, {32, 3, 64}, {31, 224, 62}} {
		b := newBlock(text(x[2], 10), x[0], x[1])
		d := dice(x[2])
		n := len(b.shards)
		for _, many := range []int{b.m - 1, b.m, min(b.m+1, n)} {
			for _, length := range []int{len(b.s), 0, -1, math.MaxInt, math.MinInt} {
				j := b.job(d.unlikes(many, n))
				j.Len = length
				for place := range many + 1 {
					oneFault(t, j, place, len(b.shards[0]))
				}
			}
		}
	}
}

// oneFault has Do asked of j with each fault that a shard may have at that place.
func oneFault(t *testing.T, j api.Job, place, size int) {
	t.Helper()
	l := j.Shards
	for _, index := range append(farInts(), -1, j.N, j.N+1, -j.N, 256+j.N) {
		if index >= 0 && index < j.N {
			continue
		}
		for _, body := range []string{text(size, 11), "", text(1025, 11)} {
			j.Shards = with(l, place, s(index, body))
			wantNone(t, j, api.ErrRange)
		}
	}
	for _, many := range []int{0, 1025, 1026, 2048, 65537} {
		j.Shards = with(l, place, s(j.N-1, text(many, 12)))
		wantNone(t, j, api.ErrLong)
	}
	if len(l) == 0 {
		return
	}
	for _, many := range []int{size - 1, size + 1, 1024, size + 256} {
		if many < 1 || many > 1024 || many == size {
			continue
		}
		j.Shards = with(l, place, s(0, text(many, 13)))
		wantNone(t, j, api.ErrUnlike)
	}
	for _, at := range []int{0, len(l) - 1} {
		other := []byte(l[at].Body)
		other[size-1] ^= 1
		j.Shards = with(l, place, s(l[at].Index, string(other)))
		wantNone(t, j, api.ErrUnlike)
	}
}

// Bodies of 1 to 1024 bytes, and no others.
func TestDoLongAtTheEdges(t *testing.T) {
	for _, k := range []int{1, 2, 3, 32} {
		for _, size := range []int{0, 1, 2, 1022, 1023, 1024, 1025, 1026, 2047, 2048, 2049} {
			body := text(k*size, 14)
			j := api.Job{Key: key(size), K: k, N: k + 1, Len: k * size}
			for i := range k {
				j.Shards = append(j.Shards, s(i, body[i*size:(i+1)*size]))
			}
			if size < 1 || size > 1024 {
				wantNone(t, j, api.ErrLong)
				continue
			}
			wantText(t, j, body)
			// The shard behind the data in place of one.
			j.Shards[0] = s(k, plainShard(plainCut(body, k), k))
			wantText(t, j, body)
		}
	}
}

// One unlike Index too few, whatever Len is: none at all, one, some, and some many times.
func TestDoErrLess(t *testing.T) {
	for _, x := range sizes() {
		b := newBlock(text(x[2], 15), x[0], x[1])
		d := dice(x[2])
		n := len(b.shards)
		for _, many := range []int{0, 1, 2, b.m / 2, b.m - 2, b.m - 1} {
			if many < 0 || many >= b.m {
				continue
			}
			for _, length := range []int{len(b.s), 0, -1, math.MaxInt, math.MinInt} {
				j := b.job(d.unlikes(many, n))
				j.Len = length
				wantNone(t, j, api.ErrLess)
				j.Shards = slices.Repeat(j.Shards, 3+x[0])
				wantNone(t, j, api.ErrLess)
			}
		}
	}
	j := api.Job{K: 2, N: 3, Len: 6, Shards: slices.Repeat([]api.Shard{s(1, "abc")}, 100000)}
	wantNone(t, j, api.ErrLess)
	j.Shards = append(j.Shards, s(0, "def"))
	wantText(t, j, "defabc")
}

// Len is asked of what was decoded: from 0 to as many bytes as there are.
func TestDoErrRangeOfLen(t *testing.T) {
	for _, x := range sizes() {
		b := newBlock(text(x[2], 16), x[0], x[1])
		for at, indexes := range b.choices()[:4] {
			if at > 0 && x[2] > 5000 {
				continue
			}
			j := b.job(indexes)
			all := b.m * len(b.shards[0])
			for _, length := range append(farInts(), -1, -2, -all, -len(b.s), all+1, all+2, 2*all+1, all+256, all+1<<16, all+1<<32) {
				if length >= 0 && length <= all {
					continue
				}
				j.Len = length
				wantNone(t, j, api.ErrRange)
			}
			j.Len = all
			wantText(t, j, b.s+nulls(all-len(b.s)))
		}
	}
}

// One byte behind Len that is not 0, at each place.
func TestDoErrForm(t *testing.T) {
	for _, x := range [][3]int{{1, 1, 5}, {2, 2, 6}, {3, 1, 12}, {4, 0, 16}, {32, 2, 64}, {1, 1, 1024}} {
		k, repair, size := x[0], x[1], x[2]
		for place := range size {
			for _, value := range []byte{1, 128, 255} {
				body := []byte(nulls(size))
				body[place] = value
				b := newBlock(string(body), k, repair)
				j := b.job(upTo(len(b.shards))[len(b.shards)-b.m:])
				for _, length := range []int{0, 1, place - 1, place} {
					if length >= 0 && length <= place {
						j.Len = length
						wantNone(t, j, api.ErrForm)
					}
				}
				j.Len = place + 1
				wantText(t, j, string(body[:place+1]))
			}
		}
	}
}

// Where several errors apply, the first one in the chapters' order.
func TestDoOrderOfErrors(t *testing.T) {
	a, b := s(0, "abc"), s(1, "def")
	l := text(1025, 17)
	for _, x := range []struct {
		k, n, length int
		l            []api.Shard
		want         api.Errno
	}{
		// K and N ahead of all shards, and of Len.
		{0, 5, -1, []api.Shard{s(-1, "")}, 1}, {33, 33, 7, []api.Shard{s(0, "")}, 1}, {2, 1, -1, []api.Shard{a, s(0, "x")}, 1}, {2, 256, -1, nil, 1}, {0, 0, 0, nil, 1}, {2, 256, 5, []api.Shard{a, b}, 1},
		// Of one shard its Index, its length, and then who is unlike.
		{2, 5, -1, []api.Shard{s(-1, "")}, 2}, {2, 5, -1, []api.Shard{s(5, l)}, 2}, {2, 5, 6, []api.Shard{a, s(5, "de")}, 2}, {2, 5, -1, []api.Shard{a, s(0, "")}, 3}, {2, 5, -1, []api.Shard{a, b, s(0, l)}, 3},
		// Of several the first one, also behind those that are enough.
		{2, 5, -1, []api.Shard{s(0, ""), s(-1, "abc")}, 3}, {2, 5, -1, []api.Shard{s(-1, "abc"), s(0, "")}, 2}, {2, 5, -1, []api.Shard{a, s(0, "x"), s(9, "")}, 16}, {2, 5, -1, []api.Shard{a, b, s(1, ""), s(1, "abc")}, 3},
		{2, 5, -1, []api.Shard{a, b, s(1, "abc"), s(1, "")}, 16}, {2, 5, 6, []api.Shard{a, b, s(2, "ghi"), s(-1, "ghi")}, 2}, {2, 5, 6, []api.Shard{a, b, s(2, "ghi"), s(2, "ghj")}, 16}, {2, 5, 6, []api.Shard{a, b, a, b, s(4, "")}, 3},
		// The shards' errors ahead of there being too few, and these ahead of Len.
		{3, 5, -1, []api.Shard{a, s(5, "abc")}, 2}, {3, 5, -1, []api.Shard{a, s(1, l)}, 3}, {3, 5, -1, []api.Shard{a, s(0, "abd")}, 16}, {3, 5, -1, []api.Shard{a, b}, 15}, {3, 5, 10, []api.Shard{a, b, a}, 15}, {1, 5, -1, nil, 15}, {1, 5, math.MinInt, []api.Shard{}, 15},
		// That Len may not be ahead of what stands behind it.
		{2, 5, -1, []api.Shard{a, b}, 2}, {2, 5, 7, []api.Shard{a, b}, 2}, {2, 5, 5, []api.Shard{a, b}, 5}, {2, 5, 0, []api.Shard{a, b}, 5}, {2, 5, 6, []api.Shard{a, b}, 0},
		{1, 5, 4, []api.Shard{a, b}, 2}, {1, 5, 2, []api.Shard{a, b}, 5}, {1, 5, 3, []api.Shard{a, b}, 0}, {2, 5, math.MinInt, []api.Shard{a, b}, 2}, {2, 5, math.MaxInt, []api.Shard{a, b}, 2},
	} {
		j := api.Job{Key: key(x.k), K: x.k, N: x.n, Len: x.length, Shards: x.l}
		if x.want == api.OK {
			wantText(t, j, "abcdef"[:x.length])
			continue
		}
		wantNone(t, j, x.want)
	}
}

// R1: any job, at the edges and by chance, against the chapters' words.

// Each edge of K, N and Len with each of the others.
func TestDoAtAllEdges(t *testing.T) {
	ks := append(farInts(), -1, 0, 1, 2, 3, 31, 32, 33)
	ns := append(farInts(), -1, 0, 1, 2, 3, 4, 31, 32, 33, 254, 255, 256)
	lengths := append(farInts(), -1, 0, 1, 2, 3, 5, 6, 7, 9, 64, 65)
	l := append(lists(), []api.Shard{s(0, "\x00\x00"), s(1, "\x00\x00"), s(2, "\x00\x00")}, []api.Shard{s(1, "b"), s(2, "k")}, []api.Shard{s(0, "a\x00\x00"), s(2, "a\x00\x00")})
	for i, list := range l {
		for _, k := range ks {
			for _, n := range ns {
				for _, length := range lengths {
					j := api.Job{Key: key(i), K: k, N: n, Len: length, Shards: list}
					wantDo(t, j, plainDo(j))
				}
			}
		}
	}
}

// anyJob is a job that may be well, or have any faults.
func anyJob(d *dice) api.Job {
	k := 1 + d.below(5)
	b := newBlock(kinds(1 + d.below(12))[d.below(7)], k, d.below(5))
	n := len(b.shards)
	j := b.job(d.unlikes(d.below(n+1), n))
	j.Key = key(d.below(100))
	for d.below(3) == 0 {
		if len(j.Shards) > 0 {
			j.Shards = with(j.Shards, d.below(len(j.Shards)), j.Shards[d.below(len(j.Shards))])
		}
	}
	if d.below(3) > 0 {
		return j
	}
	for range 1 + d.below(2) {
		at := d.below(len(j.Shards) + 1)
		switch d.below(6) {
		case 0:
			j.K = d.of([]int{j.K - 1, j.K + 1, 0, 33, -1})
		case 1:
			j.N = d.of([]int{j.N - 1, j.N + 1, 255, 256, j.K, math.MaxInt})
		case 2:
			j.Len = d.of([]int{j.Len - 1, j.Len + 1, -1, 0, j.Len + 9, math.MinInt})
		case 3:
			j.Shards = with(j.Shards, at, s(d.of([]int{-1, n, n - 1, 0, 256}), b.shards[0]))
		case 4:
			j.Shards = with(j.Shards, at, s(d.below(n), ""))
		default:
			j.Shards = with(j.Shards, at, s(d.below(n), text(len(b.shards[0])+d.below(2), 18)))
		}
	}
	return j
}

func TestDoOfAnyJob(t *testing.T) {
	d := dice(19)
	told := map[api.Errno]int{}
	for range 60000 {
		j := anyJob(&d)
		want := plainDo(j)
		wantDo(t, j, want)
		told[want.Err]++
	}
	for _, err := range []api.Errno{api.OK, api.ErrArg, api.ErrRange, api.ErrLong, api.ErrForm, api.ErrLess, api.ErrUnlike} {
		if told[err] < 300 {
			t.Errorf("error %d was told %d times alone", err, told[err])
		}
	}
}

// R4: what is handed in is not written to, where it has room behind its end, either.
func TestDoWritesToNoList(t *testing.T) {
	for _, x := range sizes() {
		b := newBlock(text(x[2], 20), x[0], x[1])
		for _, indexes := range b.choices() {
			j := b.job(indexes)
			whole := append(slices.Clone(j.Shards), s(-5, "behind"), s(0, "as well"))
			j.Shards = whole[:len(indexes)]
			wantText(t, j, b.s)
			j.Shards = whole[:b.m-1]
			wantNone(t, j, api.ErrLess)
		}
	}
}

// R5: what Do tells does not hang on what it told ahead, as a job that is none is told by a panic.
func TestDoKeepsNothing(t *testing.T) {
	l := written()
	for i, first := range l {
		for _, second := range l {
			decode.Do(first.j)
			wantDo(t, second.j, api.Result{Key: second.j.Key, Body: second.body, Err: second.err})
		}
		wantDo(t, first.j, api.Result{Key: first.j.Key, Body: l[i].body, Err: l[i].err})
	}
}

// Promise 20.1: All.

// wantAll: of each job just what Do answers, in order, and twice the same, though the first answer was written to; l stays what it was.
func wantAll(t *testing.T, l []api.Job) {
	t.Helper()
	list := l[:cap(l)]
	before := make([]api.Job, len(list))
	var want []api.Result
	for i, j := range list {
		before[i] = j
		before[i].Shards = slices.Clone(j.Shards)
		if i < len(l) {
			want = append(want, plainDo(j))
		}
	}
	for range 2 {
		got := decode.All(l)
		if len(got) != len(l) {
			t.Fatalf("All of %d jobs: %d results", len(l), len(got))
		}
		for i, r := range got {
			if r != want[i] || r != decode.Do(l[i]) {
				t.Fatalf("All of %d jobs: number %d, of %s, is %s, want %s", len(l), i, jobText(l[i]), resultText(r), resultText(want[i]))
			}
			got[i] = api.Result{Key: key(0), Body: "spoiled", Err: 99}
		}
	}
	for i, j := range list {
		same := j.Key == before[i].Key && j.K == before[i].K && j.N == before[i].N && j.Len == before[i].Len
		if !same || !slices.Equal(j.Shards, before[i].Shards) {
			t.Fatalf("All of %d jobs: number %d is %s, and was %s", len(l), i, jobText(j), jobText(before[i]))
		}
	}
}

func TestAllByHand(t *testing.T) {
	if got := decode.All(nil); len(got) != 0 {
		t.Errorf("All of none: %d results", len(got))
	}
	if got := decode.All([]api.Job{}); len(got) != 0 {
		t.Errorf("All of an empty list: %d results", len(got))
	}
	ab := api.Job{Key: api.Key{Stream: 1, Block: 2}, K: 2, N: 3, Len: 2, Shards: []api.Shard{s(2, "k"), s(0, "a")}}
	less := api.Job{Key: api.Key{Stream: 3, Block: 4}, K: 2, N: 3, Len: 2, Shards: ab.Shards[:1]}
	got := decode.All([]api.Job{less, ab, {}, ab})
	told := api.Result{Key: ab.Key, Body: "ab"}
	if !slices.Equal(got, []api.Result{{Key: less.Key, Err: api.ErrLess}, told, {Err: api.ErrArg}, told}) {
		t.Errorf("All: %v", got)
	}
}

func TestAllOfOne(t *testing.T) {
	for _, x := range written() {
		wantAll(t, []api.Job{x.j})
		wantAll(t, []api.Job{x.j, {}, x.j}[:1])
	}
}

// Two and three of them, in all orders: well, and with each error.
func TestAllInOrder(t *testing.T) {
	var l []api.Job
	for _, x := range written() {
		l = append(l, x.j)
	}
	for _, first := range l {
		for _, second := range l {
			wantAll(t, []api.Job{first, second})
		}
	}
	for _, first := range l[:24] {
		for _, second := range l[:24] {
			for _, third := range []api.Job{l[0], l[8], {}} {
				wantAll(t, []api.Job{first, third, second})
			}
		}
	}
	wantAll(t, l)
	slices.Reverse(l)
	wantAll(t, l)
}

func TestAllOfMany(t *testing.T) {
	d := dice(21)
	for _, many := range []int{2, 3, 4, 5, 7, 8, 9, 16, 17, 31, 32, 33, 63, 64, 65, 100, 255, 256, 257, 1000, 4097} {
		l := make([]api.Job, many, many+3)
		for i := range l[:cap(l)] {
			l[:cap(l)][i] = anyJob(&d)
		}
		wantAll(t, l)
	}
	// All of them are well, all are none, and one of them is.
	good, bad := written()[3].j, written()[12].j
	for _, many := range []int{1, 2, 100} {
		wantAll(t, slices.Repeat([]api.Job{good}, many))
		wantAll(t, slices.Repeat([]api.Job{bad}, many))
		wantAll(t, make([]api.Job, many))
		for _, at := range []int{0, many / 2, many - 1} {
			l := slices.Repeat([]api.Job{good}, many)
			l[at] = bad
			wantAll(t, l)
			l = slices.Repeat([]api.Job{bad}, many)
			l[at] = good
			wantAll(t, l)
		}
	}
}

// Jobs that have one list of shards in common.
func TestAllOfOneList(t *testing.T) {
	b := newBlock(text(20, 22), 4, 4)
	j := b.job([]int{7, 2, 5, 0, 1, 6})
	var l []api.Job
	for many := range len(j.Shards) + 1 {
		x := j
		x.Key = key(many)
		x.Shards = j.Shards[:many]
		l = append(l, x)
		x.Shards = j.Shards[len(j.Shards)-many:]
		l = append(l, x)
	}
	wantAll(t, l)
}

// Several goroutines at once, with the same jobs.
func TestTogether(t *testing.T) {
	d := dice(23)
	l := make([]api.Job, 300)
	var want []api.Result
	for i := range l {
		l[i] = anyJob(&d)
		want = append(want, plainDo(l[i]))
	}
	var all sync.WaitGroup
	for worker := range 8 {
		all.Go(func() {
			for i := range l {
				at := (i + worker*37) % len(l)
				if got := decode.Do(l[at]); got != want[at] {
					t.Errorf("Do(%s): %s, want %s", jobText(l[at]), resultText(got), resultText(want[at]))
				}
			}
			if !slices.Equal(decode.All(l), want) {
				t.Error("All is another one")
			}
		})
	}
	all.Wait()
}
