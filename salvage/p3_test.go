package salvage_test

import (
	"math/rand"
	"testing"

	"salvage/salvage"
)

func TestP3Examples(t *testing.T) {
	cases := [][3]uint16{
		{2, 3, 6}, {3, 3, 5}, {0x8000, 2, 0x100b}, {0xffff, 0xffff, 0x0733}, {0, 0, 0},
		{0x8000, 1, 0x8000}, {0x100, 0x100, 0x100b}, {0x100, 0x80, 0x8000},
	}
	for _, c := range cases {
		if got, back := salvage.Times(c[0], c[1]), salvage.Times(c[1], c[0]); got != c[2] || back != c[2] {
			t.Errorf("Times of %#x and %#x: %#x, %#x, want %#x", c[0], c[1], got, back, c[2])
		}
	}
}

func TestP3ZeroAndOne(t *testing.T) {
	for n := range 1 << 16 {
		a := uint16(n)
		if salvage.Times(0, a) != 0 || salvage.Times(a, 0) != 0 {
			t.Fatalf("Times of 0 and %#x is not 0", a)
		}
		if salvage.Times(1, a) != a || salvage.Times(a, 1) != a {
			t.Fatalf("Times of 1 and %#x is not %#x", a, a)
		}
	}
}

func TestP3AgainstTheReference(t *testing.T) {
	random := rand.New(rand.NewSource(1))
	for range 50000 {
		a, b := uint16(random.Intn(1<<16)), uint16(random.Intn(1<<16))
		if got, want := salvage.Times(a, b), refTimes(a, b); got != want {
			t.Fatalf("Times(%#x, %#x) = %#x, want %#x", a, b, got, want)
		}
	}
}
