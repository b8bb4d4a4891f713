package salvage_test

import (
	"math/rand"
	"reflect"
	"strings"
	"testing"

	"salvage/api"
	"salvage/salvage"
)

// wildNumbers: the edges of every bound, and of the kind of number itself.
var wildNumbers = []int{
	-1 << 63, -1 << 62, -1 << 32, -32, -2, -1, 0, 1, 2, 3, 4, 8, 19, 20, 21, 30, 31, 32, 33, 34,
	64, 255, 256, 258, 65536, 65538, 1<<32 + 2, 1<<32 + 20, 1 << 62, 1<<63 - 2, 1<<63 - 1,
}

// wildLists: lists of files that are sets or just miss it.
func wildLists() [][]api.File {
	long := strings.Repeat("x", 1<<16)
	many := make([]api.File, 5000)
	for i := range many {
		many[i] = api.File{Name: long[:1+i%20], Data: long[:i%401]}
	}
	return [][]api.File{
		nil, {}, many, many[:7], many[:6], {{}}, {{}, {}}, {{Name: "a"}},
		{{Name: "a", Data: "b"}}, {{Name: "a", Data: "b"}, {Name: "a", Data: "b"}},
		{{Name: long, Data: long}}, {{Name: "a", Data: long}}, {{Name: long, Data: "b"}},
		{{Name: "\xff\xfe\x00", Data: "\xc3\x28"}}, {{Name: "a", Data: long[:400]}},
		{{Name: "a", Data: long[:400]}, {Name: "b", Data: long[:400]}, {Name: "c", Data: long[:399]}},
	}
}

func TestP1CreateEndsAtAllArguments(t *testing.T) {
	for i, files := range wildLists() {
		for _, slice := range wildNumbers {
			for _, extra := range wildNumbers {
				packets, errno := salvage.Create(files, slice, extra)
				if (errno == api.OK) == (len(packets) == 0) {
					t.Errorf("list %d, slice %d, extra %d: %d packets, error %d", i, slice, extra, len(packets), errno)
				}
			}
		}
	}
}

func TestP1CreateNamesTheFirstError(t *testing.T) {
	right := []api.File{{Name: "a", Data: "b"}}
	cases := []struct {
		what  string
		files []api.File
		slice int
		extra int
		want  api.Errno
	}{
		{"all is wrong", nil, 3, -1, api.ErrArg},
		{"slice and files are wrong", nil, 0, 0, api.ErrArg},
		{"extra and files are wrong", nil, 2, 21, api.ErrArg},
		{"extra is wrong, no slice", []api.File{{Name: "a"}}, 2, -1, api.ErrArg},
		{"files are wrong", nil, 2, 0, api.ErrFile},
		{"nothing is wrong", right, 2, 0, api.OK},
	}
	for _, c := range cases {
		if packets, errno := salvage.Create(c.files, c.slice, c.extra); errno != c.want || (errno != api.OK && len(packets) > 0) {
			t.Errorf("%s: %d packets, error %d, want %d", c.what, len(packets), errno, c.want)
		}
	}
}

func TestP1LookAndRepairEndAtAllArguments(t *testing.T) {
	random := rand.New(rand.NewSource(1))
	volumes := [][]string{nil, {}, {""}, {"SAL", "SALM", "SALM\xff"}, {strings.Repeat("SAL", 3000)}, make([]string, 50)}
	volumes = append(volumes, []string{randomText(random, 4000), randomText(random, 9)})
	packets, _ := salvage.Create([]api.File{{Name: "a", Data: "bcdefg"}}, 2, 3)
	volumes = append(volumes, packets, []string{strings.Join(packets, "?")})
	for i, files := range wildLists() {
		for k, list := range volumes {
			if report, errno := salvage.Look(files, list); errno != api.OK && !reflect.DeepEqual(report, api.Report{}) {
				t.Errorf("Look, files %d, volumes %d: %v beside the error %d", i, k, report, errno)
			}
			if made, errno := salvage.Repair(files, list); errno != api.OK && len(made) > 0 {
				t.Errorf("Repair, files %d, volumes %d: %v beside the error %d", i, k, made, errno)
			}
		}
	}
}
