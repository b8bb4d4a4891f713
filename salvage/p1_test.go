package salvage_test

import (
	"math/rand"
	"slices"
	"strings"
	"testing"

	"salvage/api"
	"salvage/salvage"
)

// wildNumbers: the edges of every bound, and of the kind of number itself.
var wildNumbers = []int{
	-1 << 63, -1 << 62, -1 << 32, -32, -2, -1, 0, 1, 2, 3, 4, 8, 19, 20, 21, 30, 31, 32, 33, 34,
	64, 255, 256, 258, 65536, 65538, 1<<32 + 2, 1<<32 + 20, 1 << 62, 1<<63 - 2, 1<<63 - 1,
}

// wildLists: lists of files that are sets or just miss it.
func wildLists() [][]api.File {
	long := strings.Repeat("x", 1<<16)
	many := make([]api.File, 5000)
	for i := range many {
		many[i] = api.File{Name: long[:1+i%20], Data: long[:i%401]}
	}
	return [][]api.File{
		nil, {}, many, many[:7], many[:6], {{}}, {{}, {}}, {{Name: "a"}},
		{{Name: "a", Data: "b"}}, {{Name: "a", Data: "b"}, {Name: "a", Data: "b"}},
		{{Name: long, Data: long}}, {{Name: "a", Data: long}}, {{Name: long, Data: "b"}},
		{{Name: "\xff\xfe\x00", Data: "\xc3\x28"}}, {{Name: "a", Data: long[:400]}},
		{{Name: "a", Data: long[:400]}, {Name: "b", Data: long[:400]}, {Name: "c", Data: long[:399]}},
	}
}

func TestP1CreateEndsAtAllArguments(t *testing.T) {
	for i, files := range wildLists() {
		for _, slice := range wildNumbers {
			for _, extra := range wildNumbers {
				packets, errno := salvage.Create(files, slice, extra)
				if (errno == api.OK) == (len(packets) == 0) {
					t.Errorf("list %d, slice %d, extra %d: %d packets, error %d", i, slice, extra, len(packets), errno)
				}
			}
		}
	}
}

func TestP1CreateNamesTheFirstError(t *testing.T) {
	right := []api.File{{Name: "a", Data: "b"}}
	cases := []struct {
		what  string
		files []api.File
		slice int
		extra int
		want  api.Errno
	}{
		{"all is wrong", nil, 3, -1, api.ErrArg},
		{"slice and files are wrong", nil, 0, 0, api.ErrArg},
		{"extra and files are wrong", nil, 2, 21, api.ErrArg},
		{"extra is wrong, no slice", []api.File{{Name: "a"}}, 2, -1, api.ErrArg},
		{"files are wrong", nil, 2, 0, api.ErrFile},
		{"nothing is wrong", right, 2, 0, api.OK},
	}
	for _, c := range cases {
		if packets, errno := salvage.Create(c.files, c.slice, c.extra); errno != c.want || (errno != api.OK && len(packets) > 0) {
			t.Errorf("%s: %d packets, error %d, want %d", c.what, len(packets), errno, c.want)
		}
	}
}

// wildVolumes: lists of volumes that tell of a set or just miss it.
func wildVolumes() [][]string {
	random := rand.New(rand.NewSource(1))
	packets := refPackets([]api.File{{Name: "a", Data: "bcdefg"}}, 2, 3)
	all := strings.Join(packets, "?")
	// Packets that seem to begin at many bytes, and go on to the volume's end.
	nested := ""
	for len(nested) < 3986 {
		nested += "SALMSALMSALM" + number(uint64(3978-len(nested)), 2)
	}
	return [][]string{
		nil, {}, {""}, make([]string, 40), make([]string, 41), {"S"}, {"SA"}, {"SAL"}, {"SALM"}, {"SALM\xff"},
		{strings.Repeat("SAL", 1333)}, {strings.Repeat("SAL", 3000)}, {strings.Repeat("SALM\x00", 800)},
		{strings.Repeat("\x00", 4000)}, {strings.Repeat("\xff", 4000)}, slices.Repeat([]string{nested}, 40),
		{randomText(random, 4000), randomText(random, 9)}, packets, {all}, {all[:len(all)-1]}, {all[1:]},
		packets[1:], packets[:1], {packets[0], packets[2]}, slices.Repeat([]string{all}, 40),
		slices.Repeat(packets, 1000), {strings.Repeat(all, 1000)},
	}
}

func TestP1LookAndRepairEndAtAllArguments(t *testing.T) {
	for i, files := range wildLists() {
		for k, volumes := range wildVolumes() {
			if report, errno := salvage.Look(files, volumes); errno != api.OK && !equalReports(report, api.Report{}) {
				t.Errorf("Look, files %d, volumes %d: %v beside the error %d", i, k, report, errno)
			}
			if made, errno := salvage.Repair(files, volumes); errno != api.OK && len(made) > 0 {
				t.Errorf("Repair, files %d, volumes %d: %v beside the error %d", i, k, made, errno)
			}
		}
	}
}

// TestP1LookEndsAtAnyLengthThatAPacketTells: a length may point behind the
// volume's end, or leave no room for the hash.
func TestP1LookEndsAtAnyLengthThatAPacketTells(t *testing.T) {
	for _, kind := range []string{"M", "F", "R"} {
		for _, told := range []uint64{0, 1, 2, 3, 11, 3978, 3979, 4000, 1<<15 - 1, 1 << 15, 1<<16 - 1} {
			for _, behind := range []int{0, 1, 7, 8, 9, 30, 3986} {
				volume := "SAL" + kind + number(0, 8) + number(told, 2) + strings.Repeat("\x00", behind)
				checkRefused(t, kind, nil, []string{volume}, api.ErrSet)
			}
		}
	}
}

// TestP1LookAndRepairNameTheFirstError: Repair has two errors more, behind those
// of Look.
func TestP1LookAndRepairNameTheFirstError(t *testing.T) {
	packets := refPackets(pair, 4, 1)
	long := strings.Repeat("x", 4001)
	many, much := make([]api.File, 13), []api.File{{Data: long[:401]}}
	half := []api.File{{Name: "one", Data: "0123"}}
	otherHash := toldFile([]string{"0123", "4567"}, 8, 0)
	cases := []struct {
		what    string
		files   []api.File
		volumes []string
		look    api.Errno
		repair  api.Errno
	}{
		{"too many files, no set", many, nil, api.ErrArg, api.ErrArg},
		{"too much in a file, no set", much, packets[1:], api.ErrArg, api.ErrArg},
		{"too many volumes, no set", nil, make([]string, 41), api.ErrArg, api.ErrArg},
		{"too much in a volume, no set", nil, []string{long}, api.ErrArg, api.ErrArg},
		{"too many files, a file is not told", many, packets[:2], api.ErrArg, api.ErrArg},
		{"too much in a file, a file is not told", much, packets[:1], api.ErrArg, api.ErrArg},
		{"too much in a volume, a file is not told", nil, []string{packets[0], long}, api.ErrArg, api.ErrArg},
		{"too much of all", many, append(make([]string, 41), long), api.ErrArg, api.ErrArg},
		{"too many files, too much is lost", many, packets, api.ErrArg, api.ErrArg},
		{"too much in a file, another hash", much, otherHash, api.ErrArg, api.ErrArg},
		{"no set, and no file is told", pair, packets[3:], api.ErrSet, api.ErrSet},
		{"no set, but the files", pair, packets[1:], api.ErrSet, api.ErrSet},
		{"no set, and all is lost", nil, packets[1:], api.ErrSet, api.ErrSet},
		{"a file is not told", pair, packets[:2], api.ErrList, api.ErrList},
		{"a file is not told, and all is lost", nil, packets[:2], api.ErrList, api.ErrList},
		{"too much is lost", half, packets, api.OK, api.ErrLost},
		{"too much is lost, and another hash", half, otherHash, api.OK, api.ErrLost},
		{"another hash", []api.File{{Data: "01234567"}}, otherHash, api.OK, api.ErrHash},
		{"nothing is wrong", pair, packets, api.OK, api.OK},
	}
	for _, c := range cases {
		report, errno := salvage.Look(c.files, c.volumes)
		if errno != c.look || (errno != api.OK && !equalReports(report, api.Report{})) {
			t.Errorf("%s: Look: %+v, error %d, want %d", c.what, report, errno, c.look)
		}
		made, errno := salvage.Repair(c.files, c.volumes)
		if errno != c.repair || (errno != api.OK && len(made) > 0) {
			t.Errorf("%s: Repair: %q, error %d, want %d", c.what, made, errno, c.repair)
		}
	}
}
