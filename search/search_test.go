package search

import (
	"maps"
	"testing"

	"salvage/api"
	"salvage/packet"
)

// find looks for slices in files that have the given bytes.
func find(data []string, size int, slices ...string) map[int]string {
	files := []api.File{}
	for _, bytes := range data {
		files = append(files, api.File{Name: "a", Data: bytes})
	}
	hashes := []uint64{}
	for _, slice := range slices {
		hashes = append(hashes, packet.Hash(slice))
	}
	texts := map[int]string{}
	for number, piece := range Find(files, size, hashes) {
		texts[number] = piece.Text
	}
	return texts
}

func TestFind(t *testing.T) {
	cases := []struct {
		what   string
		data   []string
		size   int
		slices []string
		want   map[int]string
	}{
		{"no file", nil, 2, []string{"ab"}, map[int]string{}},
		{"a file without bytes", []string{""}, 2, []string{"\x00\x00"}, map[int]string{}},
		{"no slice", []string{"abcd"}, 2, nil, map[int]string{}},
		{"as it was cut", []string{"abcd"}, 2, []string{"ab", "cd"}, map[int]string{0: "ab", 1: "cd"}},
		{"shifted", []string{"_abcd"}, 2, []string{"ab", "cd"}, map[int]string{0: "ab", 1: "cd"}},
		{"pieces that overlap", []string{"abc"}, 2, []string{"bc", "ab"}, map[int]string{0: "bc", 1: "ab"}},
		{"one piece, many slices", []string{"xab"}, 2, []string{"ab", "cd", "ab"}, map[int]string{0: "ab", 2: "ab"}},
		{"two files", []string{"cd", "ab"}, 2, []string{"ab", "cd"}, map[int]string{0: "ab", 1: "cd"}},
		{"a piece over two files", []string{"ab", "cd"}, 4, []string{"abcd"}, map[int]string{}},
		{"filled up at the end", []string{"xa"}, 4, []string{"a\x00\x00\x00"}, map[int]string{0: "a\x00\x00\x00"}},
		{"filled up further than the file", []string{"a"}, 4, []string{"\x00\x00\x00\x00"}, map[int]string{}},
		{"filled up in the midst", []string{"axxx"}, 2, []string{"a\x00"}, map[int]string{}},
		{"the last byte is 0", []string{"a\x00"}, 4, []string{"\x00\x00\x00\x00"}, map[int]string{0: "\x00\x00\x00\x00"}},
		{"the greatest slice", []string{"0123456789abcdef0123456789abcdef"}, 32, []string{"0123456789abcdef0123456789abcdef"},
			map[int]string{0: "0123456789abcdef0123456789abcdef"}},
	}
	for _, c := range cases {
		if got := find(c.data, c.size, c.slices...); !maps.Equal(got, c.want) {
			t.Errorf("%s: %v, want %v", c.what, got, c.want)
		}
	}
}

// TestFindTakesTheFirst: these two texts have one hash, so each can be taken
// for the other.
func TestFindTakesTheFirst(t *testing.T) {
	one, other := "5BkHdbiE2aQR", "67IFzjpKGQjW"
	if packet.Hash(one) != packet.Hash(other) {
		t.Fatal("the texts have two hashes")
	}
	cases := []struct {
		what string
		data []string
		want string
	}{
		{"in one file", []string{"x" + other + one}, other},
		{"in one file, the other way round", []string{"x" + one + other}, one},
		{"in two files", []string{"x", "xx" + other, one}, other},
		{"in two files, the other way round", []string{"x", "xxx" + one, other}, one},
	}
	for _, c := range cases {
		got := find(c.data, 12, one, "0123456789ab", other)
		if want := (map[int]string{0: c.want, 2: c.want}); !maps.Equal(got, want) {
			t.Errorf("%s: %v", c.what, got)
		}
	}
}
