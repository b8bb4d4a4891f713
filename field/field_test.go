package field

import (
	"math/rand"
	"slices"
	"testing"
)

// longTimes multiplies as polynomials of 32 bits, and divides by the modulus
// only then: another way than Times goes.
func longTimes(a uint16, b uint16) uint16 {
	product := uint32(0)
	for k := range 16 {
		if b>>k&1 == 1 {
			product ^= uint32(a) << k
		}
	}
	for k := 31; k >= 16; k-- {
		if product>>k&1 == 1 {
			product ^= 0x1100b << (k - 16)
		}
	}
	return uint16(product)
}

func TestTimesAgainstLongDivision(t *testing.T) {
	random := rand.New(rand.NewSource(1))
	for range 100000 {
		a, b := uint16(random.Intn(1<<16)), uint16(random.Intn(1<<16))
		if got, want := Times(a, b), longTimes(a, b); got != want {
			t.Fatalf("Times(%#x, %#x) = %#x, want %#x", a, b, got, want)
		}
	}
}

func TestTimesOfSinglePowers(t *testing.T) {
	for i := range 16 {
		for k := range 16 {
			a, b := uint16(1)<<i, uint16(1)<<k
			if got, want := Times(a, b), longTimes(a, b); got != want {
				t.Errorf("Times(%#x, %#x) = %#x, want %#x", a, b, got, want)
			}
		}
	}
}

func TestInverse(t *testing.T) {
	if got := Inverse(0); got != 0 {
		t.Errorf("Inverse(0) = %#x", got)
	}
	for a := uint16(1); a != 0; a++ {
		if got := Times(a, Inverse(a)); got != 1 {
			t.Fatalf("%#x times its inverse is %#x", a, got)
		}
	}
}

// valueOf answers a polynomial's value; the coefficient of x^k stands at k.
func valueOf(coefficients []uint16, at uint16) uint16 {
	value := uint16(0)
	for k := len(coefficients) - 1; k >= 0; k-- {
		value = longTimes(value, at) ^ coefficients[k]
	}
	return value
}

// valueByWeights answers the value that the curve's weights give.
func valueByWeights(curve Curve, values []uint16, at uint16) uint16 {
	value := uint16(0)
	for i, weight := range curve.Weights(at) {
		value ^= Times(weight, values[i])
	}
	return value
}

func TestCurveFollowsItsPolynomial(t *testing.T) {
	random := rand.New(rand.NewSource(2))
	for range 200 {
		count := 1 + random.Intn(60)
		coefficients, values := make([]uint16, count), make([]uint16, count)
		points := make([]uint16, count)
		for i, point := range random.Perm(100)[:count] {
			coefficients[i] = uint16(random.Intn(1 << 16))
			points[i] = uint16(point)
		}
		for i, point := range points {
			values[i] = valueOf(coefficients, point)
		}
		curve := Through(points)
		for at := range uint16(100) {
			if got, want := valueByWeights(curve, values, at), valueOf(coefficients, at); got != want {
				t.Fatalf("%d points: the value at %d is %#x, want %#x", count, at, got, want)
			}
		}
	}
}

func TestCurveKeepsNothing(t *testing.T) {
	points := append(make([]uint16, 0, 9), 0, 1, 2)
	curve := Through(points)
	first := curve.Weights(7)
	want := slices.Clone(first)
	points[1] = 99
	first[0]++
	if got := curve.Weights(7); !slices.Equal(got, want) {
		t.Errorf("the weights are %v, were %v", got, want)
	}
}

func TestRow(t *testing.T) {
	text := "\x00\x01\xff\x02ab"
	row := ReadRow(text)
	if !slices.Equal(row, Row{0x0001, 0xff02, 0x6162}) {
		t.Errorf("the row is %#x", row)
	}
	if got := row.Text(); got != text {
		t.Errorf("the text is %q", got)
	}
	if empty := ReadRow(""); len(empty) != 0 || empty.Text() != "" {
		t.Errorf("the row without bytes is %v", empty)
	}
}

func TestMix(t *testing.T) {
	rows := []Row{{1, 0x8000}, {2, 3}}
	if got := Mix(rows, []uint16{2, 3}, 2); !slices.Equal(got, Row{2 ^ 6, 0x100b ^ 5}) {
		t.Errorf("the mix is %#x", got)
	}
	if got := Mix(nil, nil, 3); !slices.Equal(got, Row{0, 0, 0}) {
		t.Errorf("the mix of none is %#x", got)
	}
}
