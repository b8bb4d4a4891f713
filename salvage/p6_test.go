package salvage_test

import (
	"math/rand"
	"slices"
	"strings"
	"testing"

	"salvage/api"
	"salvage/salvage"
)

// checkReport holds a report against the states, and the slices as digits.
func checkReport(t *testing.T, what string, files []api.File, volumes []string, states []int, present string, extra int) {
	t.Helper()
	report, errno := salvage.Look(files, volumes)
	digits := ""
	for _, is := range report.Present {
		digits += map[bool]string{false: "0", true: "1"}[is]
	}
	if errno != api.OK || !slices.Equal(report.States, states) || digits != present ||
		report.Lost != strings.Count(present, "0") || report.Extra != extra {
		t.Errorf("%s: %+v, error %d, want %v, %s, %d", what, report, errno, states, present, extra)
	}
}

// equalReports tells whether two reports say the same.
func equalReports(one api.Report, other api.Report) bool {
	return slices.Equal(one.States, other.States) && slices.Equal(one.Present, other.Present) &&
		one.Lost == other.Lost && one.Extra == other.Extra
}

// checkLook holds an answer against the document's, and answers its error.
func checkLook(t *testing.T, files []api.File, volumes []string) api.Errno {
	t.Helper()
	got, errno := salvage.Look(files, volumes)
	if want, wantErrno := refLook(files, volumes); errno != wantErrno || !equalReports(got, want) {
		t.Fatalf("Look(%q, %q) = %+v, %d, want %+v, %d", files, volumes, got, errno, want, wantErrno)
	}
	return errno
}

func TestP6Examples(t *testing.T) {
	packets, _ := salvage.Create([]api.File{{Name: "a", Data: "\x00\x01\x00\x02"}}, 2, 1)
	checkReport(t, "no file", nil, packets, []int{api.Missing}, "00", 1)
	checkReport(t, "shifted", []api.File{{Name: "b", Data: "\x09\x00\x02\x09"}}, packets, []int{api.Missing}, "01", 1)
	checkReport(t, "all", []api.File{{Name: "a", Data: "\x00\x01\x00\x02"}}, packets, []int{api.Whole}, "11", 1)
}

func TestP6WhatIsPresent(t *testing.T) {
	packets := refPackets(pair, 4, 2)
	file := func(data ...string) []api.File {
		files := []api.File{}
		for _, text := range data {
			files = append(files, api.File{Name: "x", Data: text})
		}
		return files
	}
	cases := []struct {
		what  string
		files []api.File
		want  string
	}{
		{"no file", nil, "0000000"},
		{"a file without bytes", file(""), "0000000"},
		{"both", file(pair[0].Data, pair[1].Data), "1111111"},
		{"both on end", file(pair[0].Data + pair[1].Data), "1111111"},
		{"shifted", file("?" + pair[0].Data), "1110000"},
		{"a byte is changed", file("01234567x9ab"), "1100000"},
		{"a byte is lost", file("0123456789acdefghijklmnop"), "1101111"},
		{"a byte is added", file("0123456_789ab"), "1010000"},
		{"cut off", file("0123456789a"), "1100000"},
		{"backwards", file("89ab____45670123"), "1110000"},
		{"twice", file("01230123", "0123"), "1000000"},
		{"over two files", file("01", "23"), "0000000"},
		{"its bytes 0 lie behind the end", file("op"), "0000001"},
		{"half of its bytes 0 lie behind the end", file("op\x00"), "0000001"},
		{"its bytes 0 lie in the midst", file("op\x00\x00z"), "0000001"},
		{"other bytes instead of 0", file("opzz"), "0000000"},
		{"other bytes behind a byte 0", file("op\x00z"), "0000000"},
		{"in the last of twelve", append(make([]api.File, 11), file("--4567")...), "0100000"},
	}
	for _, c := range cases {
		checkReport(t, c.what, c.files, packets, []int{3, 3}, c.want, 2)
	}
}

func TestP6SlicesOfOneHash(t *testing.T) {
	packets := refPackets([]api.File{{Name: "a", Data: "xyxyxy\x00\x00"}, {Name: "b", Data: "xy"}}, 2, 0)
	checkReport(t, "one piece is many slices", []api.File{{Name: "c", Data: "_xy"}}, packets, []int{3, 3}, "11101", 0)
	checkReport(t, "a byte 0 at the end", []api.File{{Name: "c", Data: "\x00"}}, packets, []int{3, 3}, "00010", 0)
	checkReport(t, "a file without bytes is filled up with none that count", []api.File{{Name: "c"}}, packets, []int{3, 3}, "00000", 0)
	checkReport(t, "a file whose end is no 0", []api.File{{Name: "c", Data: "x"}}, packets, []int{3, 3}, "00000", 0)
	// A text with the hash of another one is as good as it.
	twin := refPackets([]api.File{{Name: "a", Data: "5BkHdbiE2aQR"}}, 12, 0)
	checkReport(t, "another text of its hash", []api.File{{Name: "a", Data: "67IFzjpKGQjW"}}, twin, []int{1}, "1", 0)
	checkReport(t, "another text of its hash, shifted", []api.File{{Name: "a", Data: "_67IFzjpKGQjW"}}, twin, []int{2}, "1", 0)
}

func TestP6States(t *testing.T) {
	set := []api.File{{Name: "one", Data: "0123"}, {Name: "none"}, {Name: "two", Data: "45\x00"}}
	packets := refPackets(set, 4, 0)
	cases := []struct {
		what    string
		files   []api.File
		states  []int
		present string
	}{
		{"all", set, []int{1, 1, 1}, "11"},
		{"in another order", []api.File{set[2], set[0], set[1]}, []int{1, 1, 1}, "11"},
		{"none", nil, []int{3, 3, 3}, "00"},
		{"some", set[:2], []int{1, 1, 3}, "10"},
		{"under other names", []api.File{{Name: "One", Data: "0123"}, {Name: "two\x00", Data: "45\x00"}, {Data: "x"}}, []int{3, 3, 3}, "11"},
		{"under each other's name", []api.File{{Name: "two", Data: "0123"}, {Name: "one", Data: "45\x00"}}, []int{2, 3, 2}, "11"},
		{"a byte more", []api.File{{Name: "one", Data: "01230"}, {Name: "none", Data: "\x00"}, {Name: "two", Data: "45\x00\x00"}}, []int{2, 2, 2}, "11"},
		{"a byte less", []api.File{{Name: "one", Data: "012"}, {Name: "two", Data: "45"}}, []int{2, 3, 2}, "01"},
		{"another byte", []api.File{{Name: "one", Data: "0124"}}, []int{2, 3, 3}, "00"},
		{"nothing in it", []api.File{{Name: "one"}}, []int{2, 3, 3}, "00"},
		{"the first of a name is damaged", []api.File{{Name: "one", Data: "x"}, {Name: "one", Data: "0123"}}, []int{2, 3, 3}, "10"},
		{"the second of a name is damaged", []api.File{{Name: "one", Data: "0123"}, {Name: "one", Data: "x"}}, []int{1, 3, 3}, "10"},
	}
	for _, c := range cases {
		checkReport(t, c.what, c.files, packets, c.states, c.present, 0)
	}
}

// TestP6WholeAsksForLengthAndHash: each alone leaves a file damaged.
func TestP6WholeAsksForLengthAndHash(t *testing.T) {
	told := func(length uint64, hash uint64) []string {
		return toldFiles(number(0, 1) + number(1, 1) + "a" + number(length, 2) + number(hash, 8) + number(refHash("012\x00"), 8))
	}
	handed := []api.File{{Name: "a", Data: "012"}}
	checkReport(t, "both", handed, told(3, refHash("012")), []int{1}, "1", 0)
	checkReport(t, "the length alone", handed, told(3, refHash("013")), []int{2}, "1", 0)
	checkReport(t, "the hash alone", handed, told(2, refHash("012")), []int{2}, "1", 0)
	checkReport(t, "neither", handed, told(4, 0), []int{2}, "1", 0)
}

func TestP6TooMuchIsHandedIn(t *testing.T) {
	packets := refPackets(pair, 4, 1)
	all := strings.Join(packets, "")
	long := strings.Repeat("x", 5000)
	twelve := make([]api.File, 12)
	forty := append(slices.Clone(packets), make([]string, 36)...)
	checkReport(t, "12 files", twelve, packets, []int{3, 3}, "0000000", 1)
	checkReport(t, "400 bytes", []api.File{{Name: "x", Data: long[:400]}}, packets, []int{3, 3}, "0000000", 1)
	checkReport(t, "40 volumes", nil, forty, []int{3, 3}, "0000000", 1)
	checkReport(t, "4000 bytes of a volume", nil, []string{long[:4000-len(all)] + all}, []int{3, 3}, "0000000", 1)
	checkReport(t, "the longest name", []api.File{{Name: long + long}}, packets, []int{3, 3}, "0000000", 1)
	checkRefused(t, "13 files", append(twelve, api.File{}), packets, api.ErrArg)
	checkRefused(t, "401 bytes", append(twelve[:11:11], api.File{Data: long[:401]}), packets, api.ErrArg)
	checkRefused(t, "41 volumes", nil, append(forty, ""), api.ErrArg)
	checkRefused(t, "4001 bytes of a volume", nil, []string{long[:4001-len(all)] + all}, api.ErrArg)
	checkRefused(t, "4001 bytes of the last volume", nil, append(slices.Clone(packets), long[:4001]), api.ErrArg)
}

func TestP6Lists(t *testing.T) {
	a, b, empty := fileText(0, "a", 5, 2), fileText(1, "b", 5, 2), fileText(0, "a", 0, 0)
	checkReport(t, "two files", nil, toldFiles(a, b), []int{3, 3}, "0000", 0)
	checkReport(t, "one without slices", nil, toldFiles(empty, b), []int{3, 3}, "00", 0)
	checkReport(t, "60 slices", nil, toldFiles(fileText(0, "a", 240, 60)), []int{3}, strings.Repeat("0", 60), 0)
	checkReport(t, "60 slices of two", nil, toldFiles(fileText(0, "a", 1, 1), fileText(1, "b", 236, 59)), []int{3, 3}, strings.Repeat("0", 60), 0)
	for what, packets := range map[string][]string{
		"61 slices":                    toldFiles(fileText(0, "a", 241, 61)),
		"61 slices of two":             toldFiles(fileText(0, "a", 1, 1), fileText(1, "b", 237, 60)),
		"no slice":                     toldFiles(empty),
		"no slice of two":              toldFiles(empty, fileText(1, "b", 0, 0)),
		"one name":                     toldFiles(a, fileText(1, "a", 5, 2)),
		"one name, first and last":     toldFiles(a, b, fileText(2, "a", 9, 3)),
		"one name, and nothing in one": toldFiles(empty, fileText(1, "a", 5, 2)),
		"the first is not told":        slices.Delete(toldFiles(a, b), 1, 2),
		"the second is not told":       toldFiles(a, b)[:2],
		"none is told":                 toldFiles(a, b)[:1],
	} {
		checkRefused(t, what, nil, packets, api.ErrList)
	}
}

// randomRemains answers what may be left of a set or two.
func randomRemains(random *rand.Rand) ([]api.File, []string) {
	set, size := randomSet(random, 30), 2*(1+random.Intn(6))
	if random.Intn(2) == 0 {
		for i := range set {
			set[i].Data = plainText(random, len(set[i].Data))
		}
	}
	packets := refPackets(append(set, api.File{Name: "last", Data: "some bytes"})[:max(1, min(6, len(set)+1))], size, random.Intn(6))
	if random.Intn(4) == 0 {
		packets = append(packets, refPackets([]api.File{{Name: "other", Data: "other"}}, 4, 2)...)
	}
	packets = append(packets, oddPackets(random, packets[0])...)
	if random.Intn(2) == 0 {
		random.Shuffle(len(packets), func(i int, k int) { packets[i], packets[k] = packets[k], packets[i] })
	}
	return randomHanded(random, set), randomVolumes(random, packets)
}

// plainText answers so many bytes of few kinds, so that slices come up twice.
func plainText(random *rand.Rand, length int) string {
	text := make([]byte, length)
	for i := range text {
		text[i] = "\x00ab"[random.Intn(3)]
	}
	return string(text)
}

// oddPackets answers right packets that may lack their form.
func oddPackets(random *rand.Rand, main string) []string {
	set := refHash(main[14 : len(main)-8])
	odd := []string{}
	for range random.Intn(4) {
		body := number(uint64(random.Intn(24)), 2) + randomText(random, random.Intn(14))
		kind := "MFRX"[random.Intn(4):][:1]
		if random.Intn(3) == 0 {
			body = main
		}
		if kind == "M" && random.Intn(2) == 0 {
			set = refHash(body)
		}
		odd = append(odd, refPacket(kind, set, body))
	}
	return odd
}

// randomVolumes answers volumes in which most of the packets lie.
func randomVolumes(random *rand.Rand, packets []string) []string {
	volumes := []string{""}
	for _, packet := range packets {
		switch random.Intn(30) {
		case 0:
			continue
		case 1:
			packet = packet[:random.Intn(len(packet))]
		case 2:
			damaged := []byte(packet)
			damaged[random.Intn(len(damaged))] ^= byte(1 + random.Intn(255))
			packet = string(damaged)
		case 3:
			packet += packet
		case 4:
			packet = "SALSALM"[:random.Intn(8)] + packet
		}
		if random.Intn(3) == 0 {
			volumes = append(volumes, "")
		}
		volumes[len(volumes)-1] += packet
	}
	return volumes
}

// randomHanded answers what may have become of some files.
func randomHanded(random *rand.Rand, set []api.File) []api.File {
	handed := []api.File{}
	for _, file := range set {
		switch cut := random.Intn(len(file.Data) + 1); random.Intn(8) {
		case 0:
			continue
		case 1:
			file.Data = file.Data[:cut]
		case 2:
			file.Data = file.Data[cut:]
		case 3:
			file.Data = file.Data[:cut] + randomText(random, 1+random.Intn(3)) + file.Data[cut:]
		case 4:
			file.Name = "another"
		case 5:
			handed = append(handed, api.File{Name: file.Name, Data: plainText(random, random.Intn(20))})
		}
		handed = append(handed, file)
	}
	return handed
}

// checkRemains holds answers for what is made at random against the document's,
// and sees to it that every answer comes up.
func checkRemains(t *testing.T, seed int64, next func(*rand.Rand) ([]api.File, []string)) {
	t.Helper()
	random := rand.New(rand.NewSource(seed))
	seen := map[api.Errno]int{}
	for range 3000 {
		files, volumes := next(random)
		seen[checkLook(t, files, volumes)]++
	}
	for _, errno := range []api.Errno{api.OK, api.ErrSet, api.ErrList} {
		if seen[errno] < 100 {
			t.Errorf("the error %d has come only %d times", errno, seen[errno])
		}
	}
}

func TestP6AgainstTheReference(t *testing.T) {
	checkRemains(t, 6, randomRemains)
}
