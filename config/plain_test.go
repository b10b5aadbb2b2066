package config_test

import (
	"math"
	"strconv"
	"strings"
	"testing"

	"lightship/api"
	"lightship/config"
)

// setting is one of a Config's fields: its name, the least and the greatest that it may be beside K 4 and Size 16, and where it stands.
type setting struct {
	name        string
	least, most int
	of          func(c *api.Config) *int
}

// The numbers are written out, not told by api's names: they are what the program is held against.

func settings() []setting {
	return []setting{
		{"K", 1, 32, func(c *api.Config) *int { return &c.K }},
		{"Repair", 0, 251, func(c *api.Config) *int { return &c.Repair }},
		{"Size", 1, 1024, func(c *api.Config) *int { return &c.Size }},
		{"Window", 1, 64, func(c *api.Config) *int { return &c.Window }},
		{"Buffer", 64, 1048576, func(c *api.Config) *int { return &c.Buffer }},
		{"Queue", 64, 1048576, func(c *api.Config) *int { return &c.Queue }},
		{"Quantum", 1, 65536, func(c *api.Config) *int { return &c.Quantum }},
		{"Table", 1, 65536, func(c *api.Config) *int { return &c.Table }},
		{"Work", 1, 4096, func(c *api.Config) *int { return &c.Work }},
		{"Workers", 1, 64, func(c *api.Config) *int { return &c.Workers }},
		{"Timeout", 1, 1048576, func(c *api.Config) *int { return &c.Timeout }},
	}
}

// plain is what Plain has to answer.
func plain() api.Config {
	var c api.Config
	for i, n := range []int{4, 2, 16, 4, 256, 256, 64, 4096, 16, 2, 8} {
		*settings()[i].of(&c) = n
	}
	return c
}

// with is c, of which that setting is n.
func (s setting) with(c api.Config, n int) api.Config {
	*s.of(&c) = n
	return c
}

// named is the setting of that name.
func named(t *testing.T, name string) setting {
	t.Helper()
	for _, s := range settings() {
		if s.name == name {
			return s
		}
	}
	t.Fatalf("no setting is called %s", name)
	return setting{}
}

// blockOf is what Block has to answer.
func blockOf(c api.Config) int {
	if c.K < 1 || c.K > 32 {
		return 0
	}
	if c.Size < 1 || c.Size > 1024 {
		return 0
	}
	all := 0
	for range c.K {
		all += c.Size
	}
	return all
}

// checkOf is what Check has to answer.
func checkOf(c api.Config) api.Errno {
	if c.K < 1 || c.K > 32 {
		return api.ErrRange
	}
	if c.Repair < 0 || c.Repair > 255-c.K {
		return api.ErrRange
	}
	if c.Size < 1 || c.Size > 1024 {
		return api.ErrRange
	}
	if c.Window < 1 || c.Window > 64 {
		return api.ErrRange
	}
	if c.Buffer < blockOf(c) || c.Buffer > 1048576 {
		return api.ErrRange
	}
	if c.Queue < blockOf(c) || c.Queue > 1048576 {
		return api.ErrRange
	}
	if c.Quantum < 1 || c.Quantum > 65536 {
		return api.ErrRange
	}
	if c.Table < 1 || c.Table > 65536 {
		return api.ErrRange
	}
	if c.Work < 1 || c.Work > 4096 {
		return api.ErrRange
	}
	if c.Workers < 1 || c.Workers > 64 {
		return api.ErrRange
	}
	if c.Timeout < 1 || c.Timeout > 1048576 {
		return api.ErrRange
	}
	return api.OK
}

// told is c as it is told: all fields, by their names.
func told(c api.Config) string {
	var l []string
	for _, s := range settings() {
		l = append(l, s.name+" "+strconv.Itoa(*s.of(&c)))
	}
	return strings.Join(l, ", ")
}

// wantCheck: that is what Check answers.
func wantCheck(t *testing.T, c api.Config, want api.Errno) {
	t.Helper()
	if got := config.Check(c); got != want {
		t.Fatalf("Check of %s: %d, want %d", told(c), got, want)
	}
}

// wantBlock: that is what Block answers.
func wantBlock(t *testing.T, c api.Config, want int) {
	t.Helper()
	if got := config.Block(c); got != want {
		t.Fatalf("Block of %s: %d, want %d", told(c), got, want)
	}
}

// held holds both calls against the plain ones, and what was handed in against itself.
func held(t *testing.T, c api.Config) {
	t.Helper()
	first := c
	wantCheck(t, c, checkOf(c))
	wantBlock(t, c, blockOf(c))
	if c != first {
		t.Fatalf("%s was handed in, and is %s", told(first), told(c))
	}
}

// wantWithin: that setting may be from least to most, and may not be beyond, with the others as they are in c.
func wantWithin(t *testing.T, s setting, c api.Config, least, most int) {
	t.Helper()
	for _, n := range []int{least, least + 1, most - 1, most} {
		wantCheck(t, s.with(c, n), api.OK)
	}
	for _, n := range append(farInts(), least-2, least-1, most+1, most+2) {
		if n < least || n > most {
			wantCheck(t, s.with(c, n), api.ErrRange)
		}
	}
}

// thoseThatMayBe are ways to make an endpoint, near the edges and far from them.
func thoseThatMayBe() []api.Config {
	l := []api.Config{plain()}
	for _, rest := range []struct{ k, size int }{{1, 1}, {1, 1024}, {2, 3}, {31, 1023}, {32, 1}, {32, 1024}} {
		block := rest.k * rest.size
		l = append(l,
			api.Config{K: rest.k, Repair: 0, Size: rest.size, Window: 1, Buffer: block, Queue: block, Quantum: 1, Table: 1, Work: 1, Workers: 1, Timeout: 1},
			api.Config{K: rest.k, Repair: 255 - rest.k, Size: rest.size, Window: 64, Buffer: 1048576, Queue: 1048576, Quantum: 65536, Table: 65536, Work: 4096, Workers: 64, Timeout: 1048576},
			api.Config{K: rest.k, Repair: 3, Size: rest.size, Window: 7, Buffer: 65537, Queue: 40000, Quantum: 1500, Table: 300, Work: 99, Workers: 5, Timeout: 1000},
		)
	}
	return l
}

// farInts are the greatest and the least ints, and those that are small in their last 8, 10, 16, 20, 31, 32 or 33 bits, or by half.
func farInts() []int {
	l := []int{0, -1, math.MaxInt, math.MaxInt - 1, math.MinInt, math.MinInt + 1, math.MaxInt - 254, math.MaxInt - 255, math.MinInt + 254, math.MinInt + 255, math.MinInt + 256}
	for _, base := range []int{8, 10, 16, 20, 31, 32, 33, 62} {
		for _, low := range []int{-64, -16, -4, -2, -1, 0, 1, 2, 4, 16, 64, 256} {
			l = append(l, 1<<base+low, -1<<base+low)
		}
	}
	return l
}

// edges are numbers about each least and each greatest of that setting, and far from them.
func (s setting) edges() []int {
	l := farInts()
	for _, low := range []int{-2, -1, 0, 1, 2} {
		l = append(l, s.least+low, s.most+low, low)
	}
	return l
}

// dice are numbers in no order, another row for each seed.
type dice uint64

// below is a number from 0 to n - 1.
func (d *dice) below(n int) int {
	*d = *d*6364136223846793005 + 1442695040888963407
	return int(uint64(*d)>>32) % n
}

// one is one of l.
func (d *dice) one(l []int) int { return l[d.below(len(l))] }
