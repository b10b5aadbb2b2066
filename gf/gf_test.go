package gf

import (
	"math"
	"testing"

	"lightship/api"
)

// product is told in another way than Mul tells it: the whole product first, then what is left of it by the field's polynomial.
func product(a, b byte) byte {
	whole := 0
	for i := range 8 {
		if b>>i&1 == 1 {
			whole ^= int(a) << i
		}
	}
	for i := 14; i >= 8; i-- {
		if whole>>i&1 == 1 {
			whole ^= 0x11d << (i - 8)
		}
	}
	return byte(whole)
}

// power is 2 multiplied n times, n not below 0.
func power(n int) byte {
	p := byte(1)
	for range n {
		p = product(p, 2)
	}
	return p
}

// eachPair hands all pairs of bytes to f.
func eachPair(f func(a, b byte)) {
	for a := range 256 {
		for b := range 256 {
			f(byte(a), byte(b))
		}
	}
}

// Promise 1.1.

func TestAdd(t *testing.T) {
	if got := Add(5, 3); got != 6 {
		t.Errorf("Add(5, 3): %d, want 6", got)
	}
	eachPair(func(a, b byte) {
		if got, want := Add(a, b), (a|b)&^(a&b); got != want {
			t.Fatalf("Add(%d, %d): %d, want %d", a, b, got, want)
		}
	})
}

func TestMul(t *testing.T) {
	for _, x := range []struct{ a, b, want byte }{
		{128, 2, 29}, // the chapter's example
		{2, 128, 29},
		{0, 0, 0},
		{0, 255, 0},
		{255, 0, 0},
		{1, 255, 255},
		{255, 1, 255},
		{3, 3, 5},
		{16, 16, 29},
		{2, 142, 1},
		{255, 255, 226},
	} {
		if got := Mul(x.a, x.b); got != x.want {
			t.Errorf("Mul(%d, %d): %d, want %d", x.a, x.b, got, x.want)
		}
	}
	eachPair(func(a, b byte) {
		if got, want := Mul(a, b), product(a, b); got != want {
			t.Fatalf("Mul(%d, %d): %d, want %d", a, b, got, want)
		}
	})
}

func TestInv(t *testing.T) {
	if got, err := Inv(0); got != 0 || err != api.ErrArg {
		t.Errorf("Inv(0): %d, %d, want 0, ErrArg", got, err)
	}
	for _, x := range []struct{ a, want byte }{{1, 1}, {2, 142}, {142, 2}, {3, 244}, {255, 253}} {
		if got, err := Inv(x.a); got != x.want || err != api.OK {
			t.Errorf("Inv(%d): %d, %d, want %d, OK", x.a, got, err, x.want)
		}
	}
	for i := 1; i < 256; i++ {
		a := byte(i)
		if got, err := Inv(a); product(a, got) != 1 || err != api.OK {
			t.Fatalf("Inv(%d): %d, %d: their product is %d", a, got, err, product(a, got))
		}
	}
}

func TestDiv(t *testing.T) {
	for _, x := range []struct{ a, b, want byte }{{0, 7, 0}, {7, 1, 7}, {7, 7, 1}, {1, 2, 142}, {29, 2, 128}, {5, 3, 3}} {
		if got, err := Div(x.a, x.b); got != x.want || err != api.OK {
			t.Errorf("Div(%d, %d): %d, %d, want %d, OK", x.a, x.b, got, err, x.want)
		}
	}
	eachPair(func(a, b byte) {
		got, err := Div(a, b)
		if b == 0 {
			if got != 0 || err != api.ErrArg {
				t.Fatalf("Div(%d, 0): %d, %d, want 0, ErrArg", a, got, err)
			}
			return
		}
		if product(got, b) != a || err != api.OK {
			t.Fatalf("Div(%d, %d): %d, %d: times %d that is %d", a, b, got, err, b, product(got, b))
		}
	})
}

func TestExp(t *testing.T) {
	for _, x := range []struct {
		n    int
		want byte
	}{
		{0, 1}, {1, 2}, {7, 128}, {8, 29}, {253, 71}, {254, 142},
		{255, 1}, {256, 2}, {509, 142}, {510, 1}, {511, 2},
		{-1, 142}, {-2, 71}, {-254, 2}, {-255, 1}, {-256, 142}, {-510, 1}, {-511, 142},
	} {
		if got := Exp(x.n); got != x.want {
			t.Errorf("Exp(%d): %d, want %d", x.n, got, x.want)
		}
	}
	for n := range 255 {
		want := power(n)
		for _, far := range []int{0, 255, 510, 255000, -255, -510, -255000} {
			if got := Exp(n + far); got != want {
				t.Fatalf("Exp(%d): %d, want %d", n+far, got, want)
			}
		}
	}
}

// The greatest and the least int are both 127 modulo 255, whether an int has 32 bits or 64.
func TestExpOfTheFarthest(t *testing.T) {
	for _, n := range []int{math.MaxInt, math.MinInt} {
		if got, want := Exp(n), power(127); got != want {
			t.Errorf("Exp(%d): %d, want %d", n, got, want)
		}
	}
	if got, want := Exp(math.MinInt+1), power(128); got != want {
		t.Errorf("Exp(%d): %d, want %d", math.MinInt+1, got, want)
	}
}

func TestLog(t *testing.T) {
	if got, err := Log(0); got != 0 || err != api.ErrArg {
		t.Errorf("Log(0): %d, %d, want 0, ErrArg", got, err)
	}
	for _, x := range []struct {
		a    byte
		want int
	}{{1, 0}, {2, 1}, {128, 7}, {29, 8}, {3, 25}, {255, 175}, {71, 253}, {142, 254}} {
		if got, err := Log(x.a); got != x.want || err != api.OK {
			t.Errorf("Log(%d): %d, %d, want %d, OK", x.a, got, err, x.want)
		}
	}
	for n := range 255 {
		if got, err := Log(power(n)); got != n || err != api.OK {
			t.Fatalf("Log(%d): %d, %d, want %d, OK", power(n), got, err, n)
		}
	}
}

// Each byte but 0 has one log, and each log one byte.
func TestExpAndLogUndoEachOther(t *testing.T) {
	for i := 1; i < 256; i++ {
		a := byte(i)
		n, err := Log(a)
		if err != api.OK || n < 0 || n > 254 || Exp(n) != a {
			t.Fatalf("Log(%d): %d, %d, whose Exp is %d", a, n, err, Exp(n))
		}
	}
}

// Promise 1.2.

func TestFieldPairs(t *testing.T) {
	eachPair(func(a, b byte) {
		if Add(a, b) != Add(b, a) {
			t.Fatalf("Add(%d, %d) is not Add(%d, %d)", a, b, b, a)
		}
		if Mul(a, b) != Mul(b, a) {
			t.Fatalf("Mul(%d, %d) is not Mul(%d, %d)", a, b, b, a)
		}
		if (Mul(a, b) == 0) != (a == 0 || b == 0) {
			t.Fatalf("Mul(%d, %d): %d", a, b, Mul(a, b))
		}
		if q, err := Div(a, b); err == api.OK && Mul(q, b) != a {
			t.Fatalf("Div(%d, %d) times %d: %d", a, b, b, Mul(q, b))
		}
	})
}

func TestFieldBytes(t *testing.T) {
	for i := range 256 {
		a := byte(i)
		if Add(a, 0) != a || Mul(a, 1) != a {
			t.Fatalf("%d with 0 and 1: %d, %d", a, Add(a, 0), Mul(a, 1))
		}
		opposites := 0
		for b := range 256 {
			if Add(a, byte(b)) == 0 {
				opposites++
			}
		}
		if opposites != 1 {
			t.Fatalf("%d has %d opposites", a, opposites)
		}
		if inverse, err := Inv(a); a != 0 && (err != api.OK || Mul(a, inverse) != 1) {
			t.Fatalf("%d has no inverse: %d, %d", a, inverse, err)
		}
	}
}

// All sums and products are told once, so that all triples of bytes can be gone over.
func TestFieldTriples(t *testing.T) {
	var sum, times [256][256]byte
	eachPair(func(a, b byte) { sum[a][b], times[a][b] = Add(a, b), Mul(a, b) })
	eachPair(func(a, b byte) {
		for i := range 256 {
			c := byte(i)
			if sum[sum[a][b]][c] != sum[a][sum[b][c]] {
				t.Fatalf("sums of %d, %d, %d", a, b, c)
			}
			if times[times[a][b]][c] != times[a][times[b][c]] {
				t.Fatalf("products of %d, %d, %d", a, b, c)
			}
			if times[a][sum[b][c]] != sum[times[a][b]][times[a][c]] {
				t.Fatalf("product of %d with the sum of %d, %d", a, b, c)
			}
		}
	})
}
