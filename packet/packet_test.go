package packet

import (
	"strings"
	"testing"

	"salvage/api"
)

func TestHash(t *testing.T) {
	cases := map[string]uint64{
		"":         0xcbf29ce484222325,
		"a":        0xaf63dc4c8601ec8c,
		"foobar":   0x85944171f73967e8,
		"\x00":     0xaf63bd4c8601b7df,
		"\xff\x80": 0xa9a2607b6f6e56a,
	}
	for text, want := range cases {
		if got := Hash(text); got != want {
			t.Errorf("Hash(%q) = %#x, want %#x", text, got, want)
		}
	}
}

func TestAppendNumber(t *testing.T) {
	if got := string(appendNumber([]byte("x"), 0x0102030405060708, 8)); got != "x\x01\x02\x03\x04\x05\x06\x07\x08" {
		t.Errorf("a number of 8 bytes stands as %q", got)
	}
	if got := string(appendNumber(nil, 0x0190, 2)); got != "\x01\x90" {
		t.Errorf("a number of 2 bytes stands as %q", got)
	}
	if got := string(appendNumber(nil, 20, 1)); got != "\x14" {
		t.Errorf("a number of 1 byte stands as %q", got)
	}
}

func TestSeal(t *testing.T) {
	body := strings.Repeat("b", 300)
	got := Seal(Extra, 0x1122334455667788, body)
	ahead := "SALR" + "\x11\x22\x33\x44\x55\x66\x77\x88" + "\x01\x2c" + body
	if want := ahead + string(appendNumber(nil, Hash(ahead), 8)); got != want {
		t.Errorf("the packet is %q, want %q", got, want)
	}
	if empty := Seal(Main, 0, ""); len(empty) != 22 || empty[:4] != "SALM" {
		t.Errorf("the packet without a body is %q", empty)
	}
}

func TestMainBody(t *testing.T) {
	got := MainBody(32, []uint64{1, 0xff00000000000000})
	if want := "\x00\x20\x02" + "\x00\x00\x00\x00\x00\x00\x00\x01" + "\xff\x00\x00\x00\x00\x00\x00\x00"; got != want {
		t.Errorf("the body is %q, want %q", got, want)
	}
}

func TestFileBody(t *testing.T) {
	file := api.File{Name: "name", Data: "foobar"}
	got := FileBody(5, file, []string{"a", ""})
	want := "\x05\x04name\x00\x06" + "\x85\x94\x41\x71\xf7\x39\x67\xe8" +
		"\xaf\x63\xdc\x4c\x86\x01\xec\x8c" + "\xcb\xf2\x9c\xe4\x84\x22\x23\x25"
	if got != want {
		t.Errorf("the body is %q, want %q", got, want)
	}
	long := api.File{Name: strings.Repeat("n", api.MaxName), Data: strings.Repeat("d", api.MaxData)}
	if got := FileBody(0, long, nil); len(got) != 2+20+2+8 || got[22:24] != "\x01\x90" {
		t.Errorf("the body of the longest file is %q", got)
	}
}

func TestExtraBody(t *testing.T) {
	if got := ExtraBody(19, "slice!"); got != "\x00\x13slice!" {
		t.Errorf("the body is %q", got)
	}
}
