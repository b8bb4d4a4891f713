package fileset

import (
	"slices"
	"strings"
	"testing"

	"salvage/api"
)

func TestIsSliceSize(t *testing.T) {
	for size := -40; size <= 80; size++ {
		want := slices.Contains([]int{2, 4, 6, 8, 10, 12, 14, 16, 18, 20, 22, 24, 26, 28, 30, 32}, size)
		if got := IsSliceSize(size); got != want {
			t.Errorf("IsSliceSize(%d) = %t", size, got)
		}
	}
	for _, size := range []int{1 << 62, -1 << 63, 1<<63 - 1, 1<<32 + 2} {
		if IsSliceSize(size) {
			t.Errorf("IsSliceSize(%d) holds", size)
		}
	}
}

// named answers empty files with the names.
func named(names ...string) []api.File {
	files := []api.File{}
	for _, name := range names {
		files = append(files, api.File{Name: name})
	}
	return files
}

func TestIsSet(t *testing.T) {
	long := strings.Repeat("n", api.MaxName)
	cases := []struct {
		what  string
		files []api.File
		want  bool
	}{
		{"nil", nil, false},
		{"none", named(), false},
		{"one", named("a"), true},
		{"six", named("1", "2", "3", "4", "5", "6"), true},
		{"seven", named("1", "2", "3", "4", "5", "6", "7"), false},
		{"no name", named("a", ""), false},
		{"the longest name", named(long), true},
		{"too long a name", named(long + "n"), false},
		{"too long a name in bytes, not in runes", named(strings.Repeat("ü", 11)), false},
		{"neighbours of one name", named("a", "b", "b"), false},
		{"first and last of one name", named("a", "b", "c", "a"), false},
		{"names that differ by case or a byte 0", named("a", "A", "a\x00"), true},
		{"names that are no text", named("\xff", "\xfe"), true},
		{"most data", []api.File{{Name: "a", Data: strings.Repeat("d", 400)}}, true},
		{"too much data", []api.File{{Name: "a"}, {Name: "b", Data: strings.Repeat("d", 401)}}, false},
	}
	for _, c := range cases {
		if got := IsSet(c.files); got != c.want {
			t.Errorf("%s: IsSet = %t", c.what, got)
		}
	}
}

func TestCut(t *testing.T) {
	cases := []struct {
		data string
		size int
		want []string
	}{
		{"", 2, []string{}},
		{"a", 2, []string{"a\x00"}},
		{"ab", 2, []string{"ab"}},
		{"abc", 2, []string{"ab", "c\x00"}},
		{"abcdefgh", 4, []string{"abcd", "efgh"}},
		{"abcdefghi", 4, []string{"abcd", "efgh", "i\x00\x00\x00"}},
	}
	for _, c := range cases {
		if got := Cut(c.data, c.size); !slices.Equal(got, c.want) {
			t.Errorf("Cut(%q, %d) = %q, want %q", c.data, c.size, got, c.want)
		}
	}
}

func TestJoin(t *testing.T) {
	cases := []struct {
		slices []string
		length int
		want   string
	}{
		{nil, 0, ""},
		{[]string{"ab"}, 2, "ab"},
		{[]string{"ab"}, 1, "a"},
		{[]string{"ab", "c\x00"}, 3, "abc"},
		{[]string{"abcd", "e\x00\x00\x00"}, 6, "abcde\x00"},
		{[]string{"abcd", "efgh"}, 7, "abcdefg"},
	}
	for _, c := range cases {
		if got := Join(c.slices, c.length); got != c.want {
			t.Errorf("Join(%q, %d) = %q, want %q", c.slices, c.length, got, c.want)
		}
	}
}

func TestJoinUndoesCut(t *testing.T) {
	data := strings.Repeat("some bytes\x00", 40)[:api.MaxData]
	for length := range len(data) + 1 {
		for size := 2; size <= api.MaxSlice; size += 2 {
			if got := Join(Cut(data[:length], size), length); got != data[:length] {
				t.Fatalf("%d bytes in slices of %d come back as %q", length, size, got)
			}
		}
	}
}

func TestCountSlicesIsWhatCutMakes(t *testing.T) {
	for length := 0; length <= api.MaxData; length++ {
		data := strings.Repeat("d", length)
		files := []api.File{{Name: "a", Data: data}, {Name: "b"}, {Name: "c", Data: "cc"}}
		for size := 2; size <= api.MaxSlice; size += 2 {
			want := len(Cut(data, size)) + 1
			if got := CountSlices(files, size); got != want {
				t.Fatalf("%d bytes in slices of %d: %d, want %d", length, size, got, want)
			}
		}
	}
}
