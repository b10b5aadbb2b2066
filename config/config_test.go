package config_test

import (
	"math"
	"testing"

	"lightship/api"
	"lightship/config"
)

// Promise 26.1: the chapter's example.

func TestExample(t *testing.T) {
	if got := config.Block(config.Plain()); got != 64 {
		t.Errorf("Block(Plain()): %d, want 64", got)
	}
}

// Promise 26.1: Plain.

func TestPlainFieldByField(t *testing.T) {
	c := config.Plain()
	for _, f := range []struct {
		name      string
		got, want int
	}{
		{"K", c.K, 4},
		{"Repair", c.Repair, 2},
		{"Size", c.Size, 16},
		{"Window", c.Window, 4},
		{"Buffer", c.Buffer, 256},
		{"Queue", c.Queue, 256},
		{"Quantum", c.Quantum, 64},
		{"Table", c.Table, 4096},
		{"Work", c.Work, 16},
		{"Workers", c.Workers, 2},
		{"Timeout", c.Timeout, 8},
	} {
		if f.got != f.want {
			t.Errorf("%s of Plain(): %d, want %d", f.name, f.got, f.want)
		}
	}
}

func TestPlainComparedAsAStruct(t *testing.T) {
	want := api.Config{K: 4, Repair: 2, Size: 16, Window: 4, Buffer: 256, Queue: 256, Quantum: 64, Table: 4096, Work: 16, Workers: 2, Timeout: 8}
	if got := config.Plain(); got != want {
		t.Errorf("Plain(): %s, want %s", told(got), told(want))
	}
	if got := plain(); got != want {
		t.Errorf("what the tests hold it against: %s, want %s", told(got), told(want))
	}
}

func TestPlainMayBe(t *testing.T) {
	wantCheck(t, config.Plain(), api.OK)
	wantBlock(t, config.Plain(), 64)
}

// What one asker does with his answer, and other calls, change nothing of the next answer.
func TestPlainIsTheSameWhenever(t *testing.T) {
	for _, s := range settings() {
		for _, n := range []int{0, -1, 7, math.MaxInt, math.MinInt} {
			c := config.Plain()
			*s.of(&c) = n
			config.Check(c)
			config.Block(c)
			if got := config.Plain(); got != plain() {
				t.Fatalf("Plain() beside one whose %s is %d: %s", s.name, n, told(got))
			}
		}
	}
}

// Promise 26.1: Check of each setting.

// Each row is a setting, the last number below that may not be, the least and the greatest that may, and the first above that may not.
func TestCheckAtTheEdges(t *testing.T) {
	for _, row := range []struct {
		name                      string
		under, least, most, above int
	}{
		{"K", 0, 1, 16, 33},
		{"Repair", -1, 0, 251, 252},
		{"Size", 0, 1, 64, 1025},
		{"Window", 0, 1, 64, 65},
		{"Buffer", 63, 64, 1 << 20, 1<<20 + 1},
		{"Queue", 63, 64, 1 << 20, 1<<20 + 1},
		{"Quantum", 0, 1, 1 << 16, 1<<16 + 1},
		{"Table", 0, 1, 1 << 16, 1<<16 + 1},
		{"Work", 0, 1, 1 << 12, 1<<12 + 1},
		{"Workers", 0, 1, 64, 65},
		{"Timeout", 0, 1, 1 << 20, 1<<20 + 1},
	} {
		s := named(t, row.name)
		wantCheck(t, s.with(config.Plain(), row.under), api.ErrRange)
		wantCheck(t, s.with(config.Plain(), row.least), api.OK)
		wantCheck(t, s.with(config.Plain(), row.most), api.OK)
		wantCheck(t, s.with(config.Plain(), row.above), api.ErrRange)
		for _, n := range []int{-1, math.MaxInt, math.MinInt} {
			wantCheck(t, s.with(config.Plain(), n), api.ErrRange)
		}
	}
}

// Plain's Buffer and Queue have room for blocks of 256 bytes: where they are as great as may be, K and Size may be, too.
func TestCheckKAndSizeWhereThereIsRoom(t *testing.T) {
	c := config.Plain()
	c.Buffer, c.Queue = 1<<20, 1<<20
	wantWithin(t, named(t, "K"), c, 1, 32)
	wantWithin(t, named(t, "Size"), c, 1, 1024)
}

// With Plain's Buffer and Queue a greater block has no room.
func TestCheckKAndSizeWhereThereIsNoRoom(t *testing.T) {
	wantWithin(t, named(t, "K"), config.Plain(), 1, 16)
	wantWithin(t, named(t, "Size"), config.Plain(), 1, 64)
}

func TestCheckOfThoseThatMayBe(t *testing.T) {
	for _, c := range thoseThatMayBe() {
		wantCheck(t, c, api.OK)
	}
}

// Whatever else there is that may be, each setting that may not be is refused, at its edges and far from them.
func TestCheckOfEachSettingBesideOthers(t *testing.T) {
	for _, c := range thoseThatMayBe() {
		for _, s := range settings() {
			for _, n := range s.edges() {
				held(t, s.with(c, n))
			}
		}
	}
}

// Each number of each setting, from below its least one to above its greatest one.
func TestCheckOfAllNumbers(t *testing.T) {
	for _, s := range settings() {
		c := config.Plain()
		if s.name == "K" || s.name == "Size" {
			c.Buffer, c.Queue = 1<<20, 1<<20
		}
		for n := s.least - 300; n <= s.most+300; n++ {
			want := api.OK
			if n < s.least || n > s.most {
				want = api.ErrRange
			}
			if got := config.Check(s.with(c, n)); got != want {
				t.Fatalf("Check of Plain() with %s %d: %d, want %d", s.name, n, got, want)
			}
		}
	}
}

// Promise 26.1: Repair, by K.

func TestCheckRepairByK(t *testing.T) {
	for _, row := range []struct{ k, most int }{{1, 254}, {2, 253}, {4, 251}, {31, 224}, {32, 223}} {
		c := config.Plain()
		c.K, c.Buffer, c.Queue = row.k, 1<<20, 1<<20
		wantWithin(t, named(t, "Repair"), c, 0, row.most)
	}
}

func TestCheckRepairAtEachK(t *testing.T) {
	for k := 1; k <= 32; k++ {
		for repair := -300; repair <= 600; repair++ {
			c := config.Plain()
			c.K, c.Repair, c.Size, c.Buffer, c.Queue = k, repair, 1, 1<<20, 1<<20
			want := api.ErrRange
			if repair >= 0 && k+repair <= 255 {
				want = api.OK
			}
			wantCheck(t, c, want)
		}
	}
}

// A K that may not be is not mended by a Repair: not by one with which there are 255 together, and by none where 255 - K goes round.
func TestCheckRepairBesideKThatMayNotBe(t *testing.T) {
	for _, k := range append(farInts(), 33, 34, 254, 255, 256) {
		for _, repair := range append(farInts(), 1, 2, 222, 223, 254, 255, 255-k, 256-k, 254-k) {
			c := config.Plain()
			c.K, c.Repair, c.Buffer, c.Queue = k, repair, 1<<20, 1<<20
			if k < 1 || k > 32 {
				wantCheck(t, c, api.ErrRange)
			}
		}
	}
}

// Promise 26.1: Buffer and Queue, by K and Size.

func TestCheckBufferAndQueueByBlock(t *testing.T) {
	for _, row := range []struct{ k, size, block int }{
		{1, 1, 1},
		{1, 2, 2},
		{2, 1, 2},
		{1, 1024, 1024},
		{32, 1, 32},
		{4, 16, 64},
		{31, 1024, 31744},
		{32, 1023, 32736},
		{32, 1024, 32768},
	} {
		for _, name := range []string{"Buffer", "Queue"} {
			c := config.Plain()
			c.K, c.Size, c.Buffer, c.Queue = row.k, row.size, row.block, row.block
			wantWithin(t, named(t, name), c, row.block, 1<<20)
			c.Buffer, c.Queue = 1<<20, 1<<20
			wantWithin(t, named(t, name), c, row.block, 1<<20)
		}
	}
}

func TestCheckBufferAndQueueAtEachKAndSize(t *testing.T) {
	for k := 1; k <= 32; k++ {
		for size := 1; size <= 1024; size++ {
			block := k * size
			c := api.Config{K: k, Repair: 1, Size: size, Window: 1, Buffer: block, Queue: block, Quantum: 1, Table: 1, Work: 1, Workers: 1, Timeout: 1}
			wantCheck(t, c, api.OK)
			c.Buffer--
			wantCheck(t, c, api.ErrRange)
			c.Buffer++
			c.Queue--
			wantCheck(t, c, api.ErrRange)
			c.Buffer--
			wantCheck(t, c, api.ErrRange)
		}
	}
}

// Neither has room by what the other one has.
func TestCheckBufferAndQueueStandAlone(t *testing.T) {
	for _, row := range []struct {
		buffer, queue int
		want          api.Errno
	}{
		{64, 64, api.OK},
		{64, 1 << 20, api.OK},
		{1 << 20, 64, api.OK},
		{1 << 20, 1 << 20, api.OK},
		{63, 1 << 20, api.ErrRange},
		{1 << 20, 63, api.ErrRange},
		{63, 65, api.ErrRange},
		{65, 63, api.ErrRange},
		{1<<20 + 1, 64, api.ErrRange},
		{64, 1<<20 + 1, api.ErrRange},
		{1<<20 + 1, 1<<20 - 1, api.ErrRange},
		{0, 0, api.ErrRange},
		{math.MaxInt, math.MinInt, api.ErrRange},
	} {
		c := config.Plain()
		c.Buffer, c.Queue = row.buffer, row.queue
		wantCheck(t, c, row.want)
	}
}

// Block of a K or Size that may not be is 0, and a Buffer and a Queue of 0, or of more, do not make them such as may be.
func TestCheckBufferAndQueueWhereThereIsNoBlock(t *testing.T) {
	for _, k := range append(farInts(), 1, 4, 32, 33) {
		for _, size := range append(farInts(), 1, 16, 1024, 1025) {
			if k >= 1 && k <= 32 && size >= 1 && size <= 1024 {
				continue
			}
			for _, room := range []int{0, 1, 64, 1 << 20, k * size} {
				c := config.Plain()
				c.K, c.Size, c.Buffer, c.Queue = k, size, room, room
				wantCheck(t, c, api.ErrRange)
			}
		}
	}
}

// Promise 26.1: Check of several settings that may not be.

func TestCheckOfNothing(t *testing.T) {
	wantCheck(t, api.Config{}, api.ErrRange)
	wantBlock(t, api.Config{}, 0)
}

func TestCheckOfSeveralThatMayNotBe(t *testing.T) {
	all := settings()
	for some := 1; some < 1<<len(all); some++ {
		for turn := range 4 {
			c := config.Plain()
			for i, s := range all {
				if some>>i&1 == 1 {
					wrong := []int{s.least - 1, s.most + 1, math.MaxInt, math.MinInt}
					*s.of(&c) = wrong[(turn+i*turn)%len(wrong)]
				}
			}
			wantCheck(t, c, api.ErrRange)
		}
	}
}

// Two that may not be do not make up for one another: one below and one above, by as much.
func TestCheckOfTwoThatMayNotBe(t *testing.T) {
	for i, s := range settings() {
		for j, other := range settings() {
			if i == j {
				continue
			}
			for far := 1; far <= 3; far++ {
				wantCheck(t, other.with(s.with(config.Plain(), s.least-far), other.most+far), api.ErrRange)
			}
		}
	}
}

// All settings are the same number.
func TestCheckOfOneNumberInAll(t *testing.T) {
	for _, n := range append(farInts(), 1, 2, 16, 32, 64, 1024) {
		var c api.Config
		for _, s := range settings() {
			*s.of(&c) = n
		}
		want := api.ErrRange
		if n == 1 {
			want = api.OK
		}
		wantCheck(t, c, want)
		held(t, c)
	}
}

// Promise 26.1: Block.

func TestBlockWrittenOut(t *testing.T) {
	for _, row := range []struct{ k, size, want int }{
		{1, 1, 1},
		{1, 1024, 1024},
		{2, 1, 2},
		{2, 3, 6},
		{3, 2, 6},
		{4, 16, 64},
		{7, 11, 77},
		{31, 1024, 31744},
		{32, 1, 32},
		{32, 1023, 32736},
		{32, 1024, 32768},
		{0, 16, 0},
		{-1, 16, 0},
		{33, 16, 0},
		{4, 0, 0},
		{4, -1, 0},
		{4, 1025, 0},
		{0, 0, 0},
		{-4, -16, 0},
		{-1, -1, 0},
		{33, 1025, 0},
		{1025, 33, 0},
		{64, 2, 0},
		{2, 2048, 0},
		{1024, 1, 0},
		{math.MaxInt, 1, 0},
		{1, math.MaxInt, 0},
		{math.MinInt, 1, 0},
		{1, math.MinInt, 0},
		{math.MinInt, -1, 0},
		{math.MaxInt, math.MaxInt, 0},
		{math.MinInt, math.MinInt, 0},
		{1<<32 + 4, 16, 0},
		{4, 1<<32 + 16, 0},
		{1<<63 - 4, 16, 0},
	} {
		c := config.Plain()
		c.K, c.Size = row.k, row.size
		wantBlock(t, c, row.want)
		wantBlock(t, api.Config{K: row.k, Size: row.size}, row.want)
	}
}

func TestBlockOfEachKAndSize(t *testing.T) {
	for k := -3; k <= 40; k++ {
		for size := -3; size <= 1100; size++ {
			want := k * size
			if k < 1 || k > 32 || size < 1 || size > 1024 {
				want = 0
			}
			wantBlock(t, api.Config{K: k, Size: size}, want)
		}
	}
}

func TestBlockWhereOneMayNotBe(t *testing.T) {
	for _, wrong := range append(farInts(), 1025, 1026, 4096) {
		for _, k := range []int{1, 2, 4, 31, 32} {
			if wrong < 1 || wrong > 1024 {
				wantBlock(t, api.Config{K: k, Size: wrong}, 0)
			}
		}
		for _, size := range []int{1, 2, 16, 1023, 1024} {
			if wrong < 1 || wrong > 32 {
				wantBlock(t, api.Config{K: wrong, Size: size}, 0)
			}
		}
	}
}

func TestBlockWhereNeitherMayBe(t *testing.T) {
	wrong := append(farInts(), -4, -16, -32, -1024, 1025, 2048)
	for _, k := range wrong {
		for _, size := range wrong {
			if (k < 1 || k > 32) && (size < 1 || size > 1024) {
				wantBlock(t, api.Config{K: k, Size: size}, 0)
			}
		}
	}
}

// Whatever the other settings are, also such as may not be, they change nothing of it.
func TestBlockBesideOtherSettings(t *testing.T) {
	for _, c := range thoseThatMayBe() {
		want := c.K * c.Size
		wantBlock(t, c, want)
		for _, s := range settings() {
			if s.name == "K" || s.name == "Size" {
				continue
			}
			for _, n := range s.edges() {
				wantBlock(t, s.with(c, n), want)
			}
		}
		wantBlock(t, api.Config{K: c.K, Size: c.Size}, want)
	}
}

// Promise 26.1: nothing is kept from call to call, and what was handed in is not changed.

func TestTheSameOnceMore(t *testing.T) {
	l := append(thoseThatMayBe(), api.Config{}, api.Config{K: math.MinInt, Size: math.MinInt})
	for _, c := range l {
		for _, ahead := range l {
			held(t, ahead)
			held(t, c)
			held(t, c)
		}
	}
}

// Promise 26.1: rows of settings, against the chapter's words.

func TestAnySettingsNearTheEdges(t *testing.T) {
	d := dice(26)
	oks := 0
	for range 200000 {
		var c api.Config
		for _, s := range settings() {
			low := d.one([]int{0, 0, 0, 0, 0, 0, 1, 1, 2, 2, 3, 9})
			if d.below(200) == 0 {
				low = -1
			}
			*s.of(&c) = []int{s.least + low, s.most - low}[d.below(2)]
		}
		held(t, c)
		if checkOf(c) == api.OK {
			oks++
		}
	}
	if oks < 1000 || oks > 199000 {
		t.Errorf("of 200000 there were %d that may be: both should be many", oks)
	}
}

func TestAnySettingsFarFromTheEdges(t *testing.T) {
	d := dice(62)
	far := farInts()
	oks := 0
	for range 200000 {
		c := api.Config{
			K: 1 + d.below(32), Repair: d.below(224), Size: 1 + d.below(1024),
			Window: 1 + d.below(64),
			Buffer: 1 + d.below(1<<20), Queue: 1 + d.below(1<<20),
			Quantum: 1 + d.below(1<<16),
			Table:   1 + d.below(1<<16), Work: 1 + d.below(1<<12),
			Workers: 1 + d.below(64),
			Timeout: 1 + d.below(1<<20),
		}
		for range d.below(3) {
			all := settings()
			*all[d.below(len(all))].of(&c) = d.one(far)
		}
		held(t, c)
		if checkOf(c) == api.OK {
			oks++
		}
	}
	if oks < 1000 || oks > 199000 {
		t.Errorf("of 200000 there were %d that may be: both should be many", oks)
	}
}

// Buffer and Queue about a block, Repair about what K leaves.
func TestAnySettingsThatHangOnOthers(t *testing.T) {
	d := dice(2626)
	for range 200000 {
		c := config.Plain()
		c.K, c.Size = d.below(36)-1, d.below(1040)-5
		c.Repair = 255 - c.K + d.below(7) - 3
		c.Buffer = c.K*c.Size + d.below(5) - 1
		c.Queue = c.K*c.Size + d.below(5) - 1
		held(t, c)
	}
}

func TestAnyInts(t *testing.T) {
	d := dice(99)
	far := append(farInts(), 1, 2, 4, 16, 32, 64)
	for range 100000 {
		var c api.Config
		for _, s := range settings() {
			*s.of(&c) = d.one(far)
		}
		held(t, c)
	}
}
