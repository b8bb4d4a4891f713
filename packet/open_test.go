package packet

import (
	"strings"
	"testing"
)

func TestOpenTakesWhatSealMade(t *testing.T) {
	for _, body := range []string{"", "b", "SALM", strings.Repeat("\xff", 300), strings.Repeat("x", 65535)} {
		sealed := Seal(Extra, 0x1122334455667788, body)
		for _, behind := range []string{"", "\x00", "SALM", sealed} {
			got, length := Open(sealed + behind)
			if want := (Packet{Extra, 0x1122334455667788, body}); got != want || length != len(sealed) {
				t.Errorf("%d bytes of body, %q behind: %v, %d", len(body), behind, got, length)
			}
		}
	}
}

func TestOpenLeavesTheKindOpen(t *testing.T) {
	for kind := range 256 {
		if got, length := Open(Seal(byte(kind), 7, "body")); got != (Packet{byte(kind), 7, "body"}) || length != 26 {
			t.Errorf("kind %d: %v, %d", kind, got, length)
		}
	}
}

func TestOpenRefusesWhatIsNotRight(t *testing.T) {
	sealed := Seal(Main, 0x0102030405060708, "some body")
	for size := range sealed {
		if got, length := Open(sealed[:size]); length != 0 || got != (Packet{}) {
			t.Errorf("cut to %d bytes: %v, %d", size, got, length)
		}
	}
	for place := range sealed {
		for bit := range 8 {
			damaged := []byte(sealed)
			damaged[place] ^= 1 << bit
			if got, length := Open(string(damaged)); length != 0 || got != (Packet{}) {
				t.Errorf("byte %d, bit %d: %v, %d", place, bit, got, length)
			}
		}
	}
	for _, ahead := range []string{"S", " ", "SAL", "\x00"} {
		if _, length := Open(ahead + sealed); length != 0 {
			t.Errorf("behind %q: %d", ahead, length)
		}
	}
}

// TestOpenHoldsTheHashAgainstAllBytesAhead: a hash of the body alone, or one
// that stands low bytes first, is not right.
func TestOpenHoldsTheHashAgainstAllBytesAhead(t *testing.T) {
	sealed := Seal(Main, 1, "body")
	ahead := sealed[:18]
	turned := []byte(sealed[18:])
	for i := range 4 {
		turned[i], turned[7-i] = turned[7-i], turned[i]
	}
	for _, text := range []string{
		ahead + string(appendNumber(nil, Hash("body"), 8)),
		ahead + string(appendNumber(nil, Hash(ahead[3:]), 8)),
		ahead + string(turned),
		ahead + strings.Repeat("\x00", 8),
	} {
		if _, length := Open(text); length != 0 {
			t.Errorf("%q is a packet of %d bytes", text, length)
		}
	}
}
