package salvage_test

import (
	"math/rand"
	"slices"
	"strings"
	"testing"

	"salvage/api"
	"salvage/salvage"
)

func TestP4Example(t *testing.T) {
	packets, errno := salvage.Create([]api.File{{Name: "a", Data: "\x00\x01\x00\x02"}}, 2, 1)
	if errno != api.OK || len(packets) != 3 {
		t.Fatalf("%d packets, error %d", len(packets), errno)
	}
	for i, want := range []int{22 + 11, 22 + 29, 22 + 4} {
		if len(packets[i]) != want {
			t.Errorf("packet %d has %d bytes, want %d", i, len(packets[i]), want)
		}
	}
	for i, want := range []string{"SALM", "SALF", "SALR"} {
		if packets[i][:4] != want || packets[i][4:12] != packets[0][4:12] {
			t.Errorf("packet %d begins %q", i, packets[i][:12])
		}
	}
	if body := packets[2][14:18]; body != "\x00\x00\x00\x07" {
		t.Errorf("the R packet has %q", body)
	}
}

// checkAgainstReference creates packets of a set and holds them against the document's.
func checkAgainstReference(t *testing.T, files []api.File, slice int, extra int) {
	t.Helper()
	got, errno := salvage.Create(files, slice, extra)
	if want := refPackets(files, slice, extra); errno != api.OK || !slices.Equal(got, want) {
		t.Fatalf("Create(%q, %d, %d) = %q, %d, want %q", files, slice, extra, got, errno, want)
	}
}

func TestP4AtTheEdges(t *testing.T) {
	random := rand.New(rand.NewSource(1))
	text := func(length int) string { return randomText(random, length) }
	name := strings.Repeat("n", api.MaxName)
	cases := []struct {
		files []api.File
		slice int
		extra int
	}{
		{[]api.File{{Name: "a", Data: "b"}}, 2, 0},
		{[]api.File{{Name: "a", Data: "b"}}, 32, 20},
		{[]api.File{{Name: name, Data: text(32)}}, 32, 2},
		{[]api.File{{Name: name}, {Name: name[1:], Data: text(33)}, {Name: "\xff"}}, 32, 2},
		{[]api.File{{Name: "a", Data: text(120)}}, 2, 1},
		{[]api.File{{Name: "a", Data: text(1)}, {Name: "b", Data: text(117)}}, 2, 1},
		{[]api.File{{Name: "a", Data: text(400)}, {Name: "b", Data: text(80)}}, 8, 1},
		{[]api.File{{Name: "a", Data: strings.Repeat("\x00", 400)}}, 32, 3},
		{[]api.File{{Name: "1", Data: text(3)}, {Name: "2"}, {Name: "3", Data: text(4)}, {Name: "4", Data: text(5)}, {Name: "5"}, {Name: "6", Data: text(1)}}, 4, 3},
	}
	for _, c := range cases {
		checkAgainstReference(t, c.files, c.slice, c.extra)
	}
}

func TestP4RandomSets(t *testing.T) {
	random := rand.New(rand.NewSource(2))
	for range 100 {
		files := randomSet(random, 20)
		files[random.Intn(len(files))].Data = randomText(random, 1+random.Intn(20))
		checkAgainstReference(t, files, 2*(1+random.Intn(16)), random.Intn(21))
	}
}

// TestP4SlicesLieOnOneCurve: the polynomial through any 61 of the 60 slices and
// 20 packets' slices has no term of degree 60. That term's coefficient is the
// sum of the values, each over its number's differences from the others.
func TestP4SlicesLieOnOneCurve(t *testing.T) {
	random := rand.New(rand.NewSource(3))
	data := randomText(random, 120)
	packets, errno := salvage.Create([]api.File{{Name: "a", Data: data}}, 2, 20)
	if errno != api.OK || len(packets) != 22 {
		t.Fatalf("%d packets, error %d", len(packets), errno)
	}
	values := []uint16{}
	for i := 0; i < len(data); i += 2 {
		values = append(values, uint16(data[i])<<8|uint16(data[i+1]))
	}
	for _, packet := range packets[2:] {
		values = append(values, uint16(packet[16])<<8|uint16(packet[17]))
	}
	for range 5 {
		sum := uint16(0)
		chosen := random.Perm(80)[:61]
		for _, i := range chosen {
			product := uint16(1)
			for _, k := range chosen {
				if k != i {
					product = refTimes(product, uint16(i)^uint16(k))
				}
			}
			sum ^= refOver(values[i], product)
		}
		if sum != 0 {
			t.Errorf("the slices %v lie on no polynomial of a degree below 60", chosen)
		}
	}
}

func TestP4WrongNumbers(t *testing.T) {
	files := []api.File{{Name: "a", Data: "bcd"}}
	for slice := -3; slice <= 70; slice++ {
		want := api.ErrArg
		if slice >= 2 && slice <= 32 && slice%2 == 0 {
			want = api.OK
		}
		if packets, errno := salvage.Create(files, slice, 1); errno != want || (len(packets) == 3) != (want == api.OK) {
			t.Errorf("slice %d: %d packets, error %d", slice, len(packets), errno)
		}
	}
	for extra := -3; extra <= 30; extra++ {
		want, count := api.ErrArg, 0
		if extra >= 0 && extra <= 20 {
			want, count = api.OK, 2+extra
		}
		if packets, errno := salvage.Create(files, 2, extra); errno != want || len(packets) != count {
			t.Errorf("extra %d: %d packets, error %d", extra, len(packets), errno)
		}
	}
}

func TestP4WrongFiles(t *testing.T) {
	text := strings.Repeat("x", 401)
	seven := []api.File{{Name: "1", Data: "x"}, {Name: "2"}, {Name: "3"}, {Name: "4"}, {Name: "5"}, {Name: "6"}, {Name: "7"}}
	cases := []struct {
		what  string
		files []api.File
		slice int
		want  api.Errno
	}{
		{"nil", nil, 2, api.ErrFile},
		{"none", []api.File{}, 2, api.ErrFile},
		{"six", seven[:6], 2, api.OK},
		{"seven", seven, 2, api.ErrFile},
		{"no name", []api.File{{Name: "", Data: "x"}}, 2, api.ErrFile},
		{"20 bytes of name", []api.File{{Name: text[:20], Data: "x"}}, 2, api.OK},
		{"21 bytes of name", []api.File{{Name: text[:21], Data: "x"}}, 2, api.ErrFile},
		{"one name twice", []api.File{{Name: "a", Data: "x"}, {Name: "b"}, {Name: "a"}}, 2, api.ErrFile},
		{"400 bytes", []api.File{{Name: "a", Data: text[:400]}}, 32, api.OK},
		{"401 bytes", []api.File{{Name: "a", Data: text[:401]}}, 32, api.ErrFile},
		{"no slice", seven[1:4], 2, api.ErrFile},
		{"60 slices", []api.File{{Name: "a", Data: text[:119]}}, 2, api.OK},
		{"61 slices", []api.File{{Name: "a", Data: text[:121]}}, 2, api.ErrFile},
		{"60 slices of two files", []api.File{{Name: "a", Data: text[:233]}, {Name: "b", Data: text[:1]}}, 4, api.OK},
		{"61 slices, though 60 would hold the bytes", []api.File{{Name: "a", Data: text[:237]}, {Name: "b", Data: text[:1]}}, 4, api.ErrFile},
	}
	for _, c := range cases {
		packets, errno := salvage.Create(c.files, c.slice, 0)
		if errno != c.want || (len(packets) > 0) != (c.want == api.OK) {
			t.Errorf("%s: %d packets, error %d, want %d", c.what, len(packets), errno, c.want)
		}
	}
}
