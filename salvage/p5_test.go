package salvage_test

import (
	"math/rand"
	"slices"
	"strings"
	"testing"

	"salvage/api"
	"salvage/salvage"
)

// pair: a set of two files, of seven slices of four bytes.
var pair = []api.File{{Name: "one", Data: "0123456789ab"}, {Name: "two", Data: "cdefghijklmnop"}}

// number answers a number as so many bytes.
func number(value uint64, size int) string {
	text := ""
	for range size {
		text = string([]byte{byte(value)}) + text
		value >>= 8
	}
	return text
}

// checkExtra holds an answer for the pair, with no file handed in, against the
// number of R packets that must count.
func checkExtra(t *testing.T, what string, volumes []string, want int) {
	t.Helper()
	report, errno := salvage.Look(nil, volumes)
	if errno != api.OK || len(report.States) != 2 || report.Lost != 7 || report.Extra != want {
		t.Errorf("%s: %+v, error %d, want %d R packets", what, report, errno, want)
	}
}

// checkRefused holds an answer against an error.
func checkRefused(t *testing.T, what string, files []api.File, volumes []string, want api.Errno) {
	t.Helper()
	report, errno := salvage.Look(files, volumes)
	if errno != want || len(report.States)+len(report.Present)+report.Lost+report.Extra != 0 {
		t.Errorf("%s: %+v, error %d, want %d", what, report, errno, want)
	}
}

func TestP5PacketsLieAnywhere(t *testing.T) {
	packets := refPackets(pair, 4, 3)
	all := strings.Join(packets, "")
	backwards := slices.Clone(packets)
	slices.Reverse(backwards)
	half := len(packets[0]) / 2
	checkExtra(t, "one a volume", packets, 3)
	checkExtra(t, "backwards", backwards, 3)
	checkExtra(t, "in one volume", []string{all}, 3)
	checkExtra(t, "backwards in one volume", []string{strings.Join(backwards, "")}, 3)
	checkExtra(t, "bytes around", []string{"SALMSAL" + strings.Join(packets, "SALF\x00") + "SAL"}, 3)
	checkExtra(t, "twice", []string{all, "", all + all}, 3)
	checkExtra(t, "half an M ahead", []string{packets[0][:half] + all}, 3)
	checkExtra(t, "an R without its beginning", []string{strings.Join(packets[:3], "") + packets[3][1:] + packets[4]}, 1)
	checkExtra(t, "an R without its end", []string{strings.Join(packets[:3], "") + packets[3][:25] + packets[4]}, 1)
	checkExtra(t, "the end of a volume cuts", []string{all[:len(all)-1]}, 2)
	checkExtra(t, "an R over two volumes", append(slices.Clone(packets[:3]), packets[3][:9], packets[3][9:]), 0)
	checkRefused(t, "an M over two volumes", nil, []string{all[:half], all[half:]}, api.ErrSet)
}

func TestP5DamagedPacketsAreNone(t *testing.T) {
	packets := refPackets(pair, 4, 2)
	for i, packet := range packets {
		for place := range packet {
			damaged := []byte(packet)
			damaged[place] ^= 0x04
			volumes := slices.Clone(packets)
			volumes[i] = string(damaged)
			switch i {
			case 0:
				checkRefused(t, "M is damaged", nil, volumes, api.ErrSet)
			case 1, 2:
				checkRefused(t, "F is damaged", nil, volumes, api.ErrList)
			default:
				checkExtra(t, "R is damaged", volumes, 1)
			}
		}
	}
}

// TestP5GoesOnBehindAPacket: bytes inside a right packet are looked through
// only if it is none.
func TestP5GoesOnBehindAPacket(t *testing.T) {
	packets := refPackets(pair, 4, 2)
	set := refHash(packets[0][14 : len(packets[0])-8])
	listed := strings.Join(packets[:3], "")
	for _, kind := range []string{"M", "F", "R"} {
		outer := refPacket(kind, set, "body"+packets[3])
		foreign := refPacket(kind, set+1, packets[3])
		wrong := "SAL" + kind + number(set, 8) + number(26, 2) + packets[3] + "no hash!"
		checkExtra(t, kind+" around an R", []string{listed + outer + packets[4]}, 1)
		checkExtra(t, kind+" of another set around an R", []string{listed + foreign + packets[4]}, 1)
		checkExtra(t, kind+" with a wrong hash around an R", []string{listed + wrong + packets[4]}, 2)
		checkExtra(t, kind+" that is too long ahead", []string{listed + "SAL" + kind + number(set, 8) + number(5000, 2) + packets[3]}, 1)
	}
	for _, kind := range []string{"X", "m", "\x00", "S"} {
		checkExtra(t, "a kind that there is not around an R", []string{listed + refPacket(kind, set, packets[3])}, 1)
	}
	checkExtra(t, "a set inside a packet", []string{refPacket("R", 5, strings.Join(refPackets(pair[:1], 4, 1), "")), listed}, 0)
}

func TestP5TheSetIsThatOfTheFirstM(t *testing.T) {
	packets, other := refPackets(pair, 4, 2), refPackets(pair[:1], 2, 5)
	main := packets[0][14 : len(packets[0])-8]
	checkExtra(t, "the other set behind", slices.Concat(packets, other), 2)
	checkExtra(t, "the other M last", []string{strings.Join(other[1:], ""), strings.Join(packets, "") + other[0]}, 2)
	if report, errno := salvage.Look(nil, slices.Concat(other, packets)); errno != api.OK || len(report.Present) != 6 || report.Extra != 5 {
		t.Errorf("the other set ahead: %+v, error %d", report, errno)
	}
	checkRefused(t, "the other M ahead", nil, slices.Concat(other[:1], packets), api.ErrList)
	checkRefused(t, "no M", nil, slices.Concat(packets[1:], other[1:]), api.ErrSet)
	for _, set := range []uint64{0, refHash(main) + 1, refHash(main) ^ 1<<63, refHash(packets[0])} {
		checkRefused(t, "an M of another hash", nil, slices.Concat([]string{refPacket("M", set, main)}, packets[1:]), api.ErrSet)
		checkExtra(t, "an M of another hash ahead", slices.Concat([]string{refPacket("M", set, main)}, packets), 2)
	}
}

func TestP5FormOfM(t *testing.T) {
	packets := refPackets(pair, 4, 2)
	hashes := strings.Repeat("the hash", 300)
	for size := range 300 {
		for _, files := range []int{0, 1, 6, 7, 255} {
			body := number(uint64(size), 2) + number(uint64(files), 1) + hashes[:8*files]
			p := refPacket("M", refHash(body), body)
			if size >= 2 && size <= 32 && size%2 == 0 && files >= 1 && files <= 6 {
				checkRefused(t, "a right form", nil, []string{p}, api.ErrList)
				continue
			}
			checkRefused(t, "a wrong form", nil, []string{p}, api.ErrSet)
			checkExtra(t, "a wrong form ahead", append([]string{p}, packets...), 2)
		}
	}
	for length := range 70 {
		body := (number(4, 2) + number(2, 1) + hashes)[:length]
		want := api.ErrSet
		if length == 19 {
			want = api.ErrList
		}
		checkRefused(t, "an M of another length", nil, []string{refPacket("M", refHash(body), body)}, want)
	}
}

// fileText answers an F packet's body that tells what it is told to.
func fileText(i int, name string, length int, slices int) string {
	return number(uint64(i), 1) + number(uint64(len(name)), 1) + name + number(uint64(length), 2) + "filehash" + strings.Repeat("slicehas", slices)
}

// toldFiles answers packets of a set with slices of four bytes and with these
// F packets' bodies.
func toldFiles(bodies ...string) []string {
	main := number(4, 2) + number(uint64(len(bodies)), 1)
	for _, body := range bodies {
		main += number(refHash(body), 8)
	}
	packets := []string{refPacket("M", refHash(main), main)}
	for _, body := range bodies {
		packets = append(packets, refPacket("F", refHash(main), body))
	}
	return packets
}

func TestP5FormOfF(t *testing.T) {
	name := strings.Repeat("n", 255)
	right := fileText(0, "a", 9, 3)
	cases := []struct {
		what string
		body string
		want api.Errno
	}{
		{"ordinary", right, api.OK},
		{"one slice", fileText(0, "a", 1, 1), api.OK},
		{"one whole slice", fileText(0, "a", 4, 1), api.OK},
		{"a name of 20 bytes", fileText(0, name[:20], 5, 2), api.OK},
		{"a name of 21 bytes", fileText(0, name[:21], 5, 2), api.ErrList},
		{"a name of 255 bytes", fileText(0, name, 5, 2), api.ErrList},
		{"no name", fileText(0, "", 5, 2), api.ErrList},
		{"another number", fileText(1, "a", 9, 3), api.ErrList},
		{"the greatest number", fileText(255, "a", 9, 3), api.ErrList},
		{"a slice too few", fileText(0, "a", 9, 2), api.ErrList},
		{"a slice too many", fileText(0, "a", 9, 4), api.ErrList},
		{"a byte too many", right + "x", api.ErrList},
		{"a byte too few", right[:len(right)-1], api.ErrList},
		{"no slices", right[:13], api.ErrList},
		{"no hash", right[:5], api.ErrList},
		{"no length", right[:3], api.ErrList},
		{"half a name", number(0, 1) + number(9, 1) + "half", api.ErrList},
		{"one byte", "\x00", api.ErrList},
		{"nothing", "", api.ErrList},
		{"401 bytes", fileText(0, "a", 401, 101), api.ErrList},
		{"65535 bytes", fileText(0, "a", 65535, 400), api.ErrList},
	}
	for _, c := range cases {
		if _, errno := salvage.Look(nil, toldFiles(c.body)); errno != c.want {
			t.Errorf("%s: error %d, want %d", c.what, errno, c.want)
		}
	}
}

func TestP5FilesAreThoseThatMNames(t *testing.T) {
	packets := refPackets(pair, 4, 0)
	set := refHash(packets[0][14 : len(packets[0])-8])
	first, second := packets[1][14:len(packets[1])-8], packets[2][14:len(packets[2])-8]
	other := refPackets([]api.File{pair[0], {Name: "two", Data: "cdefghijklmnoP"}}, 4, 0)[2]
	for what, wrong := range map[string]string{
		"of another set":           refPacket("F", set+1, second),
		"of another kind":          refPacket("R", set, second),
		"of another file":          refPacket("F", set, other[14:len(other)-8]),
		"the first, as the second": refPacket("F", set, "\x01"+first[1:]),
		"the second, as the third": refPacket("F", set, "\x02"+second[1:]),
		"the first":                packets[1],
	} {
		checkRefused(t, what, nil, []string{packets[0], packets[1], wrong}, api.ErrList)
		checkExtra(t, what+", and the right one behind", []string{packets[0], packets[1], wrong, packets[2]}, 0)
		checkExtra(t, what+", and the right one ahead", []string{packets[2] + packets[1], wrong, packets[0]}, 0)
	}
	swapped := toldFiles(second, first)
	checkRefused(t, "both under the other's number", nil, swapped, api.ErrList)
}

func TestP5FormOfR(t *testing.T) {
	packets := refPackets(pair, 4, 0)
	set := refHash(packets[0][14 : len(packets[0])-8])
	for _, at := range []uint64{0, 1, 18, 19, 20, 21, 255, 256, 65535} {
		want := 0
		if at < 20 {
			want = 1
		}
		checkExtra(t, "any number", append(slices.Clone(packets), refPacket("R", set, number(at, 2)+"four")), want)
	}
	for length := range 12 {
		want := 0
		if length == 6 {
			want = 1
		}
		checkExtra(t, "any length", append(slices.Clone(packets), refPacket("R", set, (number(3, 2) + "four and more")[:length])), want)
	}
	several := []string{refPacket("R", set, number(7, 2)+"four"), refPacket("R", set, number(7, 2)+"five"), refPacket("R", set+1, number(8, 2)+"four")}
	checkExtra(t, "several of one number, one of another set", slices.Concat(several, packets, several), 1)
	all := slices.Clone(packets)
	for at := range 30 {
		all = append(all, refPacket("R", set, number(uint64(at), 2)+"four"))
	}
	checkExtra(t, "all numbers", all, 20)
}

// TestP5AgainstTheReference: volumes of packets that are damaged, shuffled,
// inside each other, of several sets, or right but without their form.
func TestP5AgainstTheReference(t *testing.T) {
	checkRemains(t, 5, func(random *rand.Rand) ([]api.File, []string) {
		_, volumes := randomRemains(random)
		return nil, volumes
	})
}
