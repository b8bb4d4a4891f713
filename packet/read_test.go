package packet

import (
	"reflect"
	"slices"
	"strings"
	"testing"

	"salvage/api"
)

func TestReadMain(t *testing.T) {
	for size := range 70 {
		for count := range 10 {
			hashes := make([]uint64, count)
			for i := range hashes {
				hashes[i] = 0xf1f2f3f4f5f6f700 + uint64(i)
			}
			want := size >= 2 && size <= 32 && size%2 == 0 && count >= 1 && count <= 6
			got, right := ReadMain(MainBody(size, hashes))
			if right != want || right && (got.Size != size || !slices.Equal(got.Files, hashes)) {
				t.Errorf("size %d, %d files: %v, %t", size, count, got, right)
			}
		}
	}
}

func TestReadMainHoldsTheLength(t *testing.T) {
	body := MainBody(4, []uint64{1, 2, 3})
	for size := range body {
		if got, right := ReadMain(body[:size]); right {
			t.Errorf("cut to %d bytes: %v", size, got)
		}
	}
	for _, behind := range []string{"\x00", "seven b", "8 bytes!", "9 bytes!!"} {
		if got, right := ReadMain(body + behind); right {
			t.Errorf("with %q behind: %v", behind, got)
		}
	}
	for _, high := range []string{"\x01\x04", "\x04\x00", "\xff\xff"} {
		if got, right := ReadMain(high + body[2:]); right {
			t.Errorf("with the size %q: %v", high, got)
		}
	}
}

// fileBody answers an F packet's body that says what it is told, right or not.
func fileBody(number int, name string, length int, slices int) string {
	body := string([]byte{byte(number), byte(len(name))}) + name
	body += string(appendNumber(nil, uint64(length), 2)) + "filehash"
	return body + strings.Repeat("slicehas", slices)
}

func TestReadFile(t *testing.T) {
	file := api.File{Name: "na\x00me", Data: "foobar"}
	got, right := ReadFile(FileBody(5, file, []string{"a", ""}), 4)
	want := FileInfo{5, "na\x00me", 6, 0x85944171f73967e8, []uint64{0xaf63dc4c8601ec8c, 0xcbf29ce484222325}}
	if !right || !reflect.DeepEqual(got, want) {
		t.Errorf("the body says %v, %t", got, right)
	}
}

func TestReadFileAtTheEdges(t *testing.T) {
	name := strings.Repeat("n", 255)
	cases := []struct {
		what string
		body string
		size int
		want bool
	}{
		{"no bytes", fileBody(0, "a", 0, 0), 4, true},
		{"no bytes, a slice", fileBody(0, "a", 0, 1), 4, false},
		{"a byte", fileBody(0, "a", 1, 1), 4, true},
		{"a byte, no slice", fileBody(0, "a", 1, 0), 4, false},
		{"a byte, two slices", fileBody(0, "a", 1, 2), 4, false},
		{"a whole slice", fileBody(0, "a", 4, 1), 4, true},
		{"a whole slice, told as two", fileBody(0, "a", 4, 2), 4, false},
		{"a slice and a byte", fileBody(0, "a", 5, 2), 4, true},
		{"a slice and a byte, told as one", fileBody(0, "a", 5, 1), 4, false},
		{"slices of another size", fileBody(0, "a", 5, 2), 6, false},
		{"400 bytes", fileBody(0, "a", 400, 200), 2, true},
		{"400 bytes, the greatest slices", fileBody(0, "a", 400, 13), 32, true},
		{"401 bytes", fileBody(0, "a", 401, 201), 2, false},
		{"65535 bytes", fileBody(0, "a", 65535, 2048), 32, false},
		{"no name", fileBody(0, "", 1, 1), 4, false},
		{"20 bytes of name", fileBody(0, name[:20], 1, 1), 4, true},
		{"21 bytes of name", fileBody(0, name[:21], 1, 1), 4, false},
		{"255 bytes of name", fileBody(0, name, 1, 1), 4, false},
		{"the greatest number", fileBody(255, "a", 1, 1), 4, true},
	}
	for _, c := range cases {
		if got, right := ReadFile(c.body, c.size); right != c.want {
			t.Errorf("%s: %v, %t", c.what, got, right)
		}
	}
}

func TestReadFileHoldsTheLength(t *testing.T) {
	body := fileBody(0, "name", 9, 3)
	for size := range body {
		if got, right := ReadFile(body[:size], 4); right {
			t.Errorf("cut to %d bytes: %v", size, got)
		}
	}
	for size := 1; size < 17; size++ {
		if got, right := ReadFile(body+strings.Repeat("x", size), 4); right {
			t.Errorf("with %d bytes behind: %v", size, got)
		}
	}
}

func TestReadExtra(t *testing.T) {
	for _, number := range []int{0, 1, 19, 20, 21, 255, 256, 275, 65535} {
		got, right := ReadExtra(ExtraBody(number, "slice!"), 6)
		if right != (number < 20) || right && got != (ExtraInfo{number, "slice!"}) {
			t.Errorf("number %d: %v, %t", number, got, right)
		}
	}
	for size := range 12 {
		if got, right := ReadExtra(ExtraBody(1, strings.Repeat("x", size)), 6); right != (size == 6) {
			t.Errorf("a slice of %d bytes: %v, %t", size, got, right)
		}
	}
	for _, body := range []string{"", "\x00"} {
		if got, right := ReadExtra(body, 2); right {
			t.Errorf("the body %q: %v", body, got)
		}
	}
}
