package salvage_test

import (
	"math/rand"
	"slices"
	"strings"
	"testing"

	"salvage/api"
	"salvage/salvage"
)

// checkMade holds files that are made anew against those that must come out.
func checkMade(t *testing.T, what string, files []api.File, volumes []string, want []api.File) {
	t.Helper()
	if made, errno := salvage.Repair(files, volumes); errno != api.OK || !slices.Equal(made, want) {
		t.Errorf("%s: %q, error %d, want %q", what, made, errno, want)
	}
}

// checkUnmade holds an answer against an error.
func checkUnmade(t *testing.T, what string, files []api.File, volumes []string, want api.Errno) {
	t.Helper()
	if made, errno := salvage.Repair(files, volumes); errno != want || len(made) > 0 {
		t.Errorf("%s: %q, error %d, want %d", what, made, errno, want)
	}
}

// named answers files with these bytes, under names that are no set's.
func named(data ...string) []api.File {
	files := []api.File{}
	for _, text := range data {
		files = append(files, api.File{Name: "x", Data: text})
	}
	return files
}

// setOf answers the set's hash that an M packet has.
func setOf(main string) uint64 { return refHash(main[14 : len(main)-8]) }

// extraOf answers an R packet of the set that an M packet tells of.
func extraOf(main string, at int, slice string) string {
	return refPacket("R", setOf(main), number(uint64(at), 2)+slice)
}

func TestP7Examples(t *testing.T) {
	set := []api.File{{Name: "a", Data: "\x00\x01\x00\x02"}}
	packets, _ := salvage.Create(set, 2, 1)
	checkUnmade(t, "no file", nil, packets, api.ErrLost)
	checkMade(t, "shifted", []api.File{{Name: "b", Data: "\x09\x00\x02\x09"}}, packets, set)
	checkMade(t, "whole", set, packets, set)
}

// TestP7NoSliceIsLost: then no R packet is asked for, nor looked at.
func TestP7NoSliceIsLost(t *testing.T) {
	packets := refPackets(pair, 4, 0)
	wrong := append(slices.Clone(packets), extraOf(packets[0], 0, "wron"), extraOf(packets[0], 1, "g..."))
	cases := []struct {
		what  string
		files []api.File
	}{
		{"as they were", pair},
		{"the other way round", []api.File{pair[1], pair[0]}},
		{"under other names", named(pair[0].Data, pair[1].Data)},
		{"under each other's name", []api.File{{Name: "two", Data: pair[0].Data}, {Name: "one", Data: pair[1].Data}}},
		{"damaged ahead, whole behind", []api.File{{Name: "one", Data: "x"}, {Name: "two"}, pair[0], pair[1]}},
		{"in one file", named(pair[0].Data + pair[1].Data)},
		{"at odd places", named("_0123_4567__89ab", "?klmn?ghij", "___cdef", "opop")},
		{"pieces in any order", named("op", "klmn", "ghij", "cdef", "89ab", "4567", "0123")},
		{"twice", append(slices.Clone(pair), pair...)},
		{"cut off behind the last byte that is no 0", named("0123456789abcdefghijklmnop")},
		{"with more behind", named("0123456789ab!", "cdefghijklmnop\x00\x00!")},
	}
	for _, c := range cases {
		checkMade(t, c.what, c.files, packets, pair)
		checkMade(t, c.what+", R packets are wrong", c.files, wrong, pair)
	}
}

func TestP7AsManyAsAreLeft(t *testing.T) {
	left := []string{"0123", "4567", "89ab", "cdef", "ghij", "klmn", "op"}
	for extra := range 8 {
		packets := refPackets(pair, 4, extra)
		for lost := range 8 {
			files := named(left[lost:]...)
			if lost <= extra {
				checkMade(t, "enough is left", files, packets, pair)
				checkMade(t, "just enough is left", files, slices.Concat(packets[:3], packets[3+extra-lost:]), pair)
			} else {
				checkUnmade(t, "too much is lost", files, packets, api.ErrLost)
			}
		}
	}
}

// TestP7WhatDoesNotCountIsNotLeft: packets that are none, or of another set, or
// of one number make nothing.
func TestP7WhatDoesNotCountIsNotLeft(t *testing.T) {
	packets, other := refPackets(pair, 4, 2), refPackets(pair[:1], 4, 2)
	handed := named("0123456789", "ghijklmnop")
	checkMade(t, "both", handed, packets, pair)
	for what, volumes := range map[string][]string{
		"one":                          packets[:4],
		"one twice":                    append(slices.Clone(packets[:4]), packets[3]),
		"the second is damaged":        append(slices.Clone(packets[:4]), packets[4][:25]+"x"),
		"the second is of another set": append(slices.Clone(packets[:4]), other[3]),
		"the second is too long":       append(slices.Clone(packets[:4]), extraOf(packets[0], 1, "12345")),
		"the second's number is 20":    append(slices.Clone(packets[:4]), extraOf(packets[0], 20, "1234")),
		"the second lies in a packet":  append(slices.Clone(packets[:4]), refPacket("R", 1, packets[4])),
		"the second is over volumes":   append(slices.Clone(packets[:4]), packets[4][:9], packets[4][9:]),
	} {
		checkUnmade(t, what, handed, volumes, api.ErrLost)
	}
}

// TestP7TakesTheLeastNumbers: a wrong R packet harms only if it is one of those
// that are taken.
func TestP7TakesTheLeastNumbers(t *testing.T) {
	packets := refPackets(pair, 4, 20)
	listed, extras := packets[:3], packets[3:]
	for lost := 1; lost <= 7; lost++ {
		handed := named(strings.Split("0123 4567 89ab cdef ghij klmn op", " ")[lost:]...)
		for at := range 20 {
			volumes := slices.Clone(extras)
			volumes[at] = extraOf(packets[0], at, "wron")
			slices.Reverse(volumes)
			volumes = append(volumes, listed...)
			if at < lost {
				checkUnmade(t, "one of the least is wrong", handed, volumes, api.ErrHash)
			} else {
				checkMade(t, "a greater one is wrong", handed, volumes, pair)
			}
		}
	}
	// With gaps the least are not those from 0 on.
	handed := named("0123", "89abcdefghijkl", "op")
	wrong := extraOf(packets[0], 17, "wron")
	checkMade(t, "12, 16, and 17 is wrong", handed, slices.Concat(listed, []string{wrong, extras[16], extras[12]}), pair)
	checkMade(t, "12, 19 and 16", handed, slices.Concat([]string{extras[12], extras[19], extras[16]}, listed), pair)
	checkUnmade(t, "16, 18, and 17 is wrong", handed, slices.Concat(listed, []string{extras[16], extras[18], wrong}), api.ErrHash)
}

func TestP7TakesTheFirstOfOneNumber(t *testing.T) {
	packets := refPackets(pair, 4, 2)
	handed := named("456789ab", "cdefghijklmnop")
	wrong := extraOf(packets[0], 0, "wron")
	checkMade(t, "the right one first", handed, append(slices.Clone(packets), wrong), pair)
	checkMade(t, "the right one first in a volume", handed, []string{strings.Join(packets, "") + wrong}, pair)
	checkUnmade(t, "the wrong one first", handed, append([]string{wrong}, packets...), api.ErrHash)
	checkUnmade(t, "the wrong one first in a volume", handed, []string{wrong + strings.Join(packets, "")}, api.ErrHash)
}

func TestP7FilesAreCutToTheirLength(t *testing.T) {
	random := rand.New(rand.NewSource(1))
	for length := 1; length <= 100; length++ {
		set := []api.File{
			{Name: "none"}, {Name: "a", Data: randomText(random, length)},
			{Name: "zeros", Data: strings.Repeat("\x00", length)}, {Name: "no more"}, {Name: "b", Data: "b\x00"},
		}
		for size := 10; size <= 32; size += 2 {
			packets := refPackets(set, size, 3)
			checkMade(t, "all slices are left", named("_"+set[1].Data, set[2].Data, "b"), packets[:6], set)
			checkMade(t, "some are lost", named(set[1].Data[min(length, size):], set[2].Data), packets, set)
		}
	}
}

// toldFile answers packets of a set of one file whose bytes have another length
// or hash than its slices would tell.
func toldFile(slices []string, length int, hash uint64) []string {
	body := number(0, 1) + number(1, 1) + "a" + number(uint64(length), 2) + number(hash, 8)
	for _, slice := range slices {
		body += number(refHash(slice), 8)
	}
	return toldFiles(body)
}

func TestP7HashOfAFile(t *testing.T) {
	both := []string{"0123", "4567"}
	handed := named("x01234567")
	a := func(data string) []api.File { return []api.File{{Name: "a", Data: data}} }
	checkMade(t, "the right hash", handed, toldFile(both, 8, refHash("01234567")), a("01234567"))
	checkUnmade(t, "another hash", handed, toldFile(both, 8, refHash("01234567")+1), api.ErrHash)
	checkUnmade(t, "a hash whose high half differs", handed, toldFile(both, 8, refHash("01234567")^1<<63), api.ErrHash)
	checkUnmade(t, "the hash of what is cut off too", handed, toldFile(both, 6, refHash("01234567")), api.ErrHash)
	checkMade(t, "the hash of what is not cut off", handed, toldFile(both, 6, refHash("012345")), a("012345"))
	checkUnmade(t, "the hash of one slice of two", handed, toldFile(both, 8, refHash("0123")), api.ErrHash)
	// A file that is handed in under its name is not asked: its slices are.
	checkUnmade(t, "whole, but its slices are other ones", append(a("89ab"), handed...), toldFile(both[:1], 4, refHash("89ab")), api.ErrHash)
}

func TestP7HashOfEachFile(t *testing.T) {
	set := []api.File{{Name: "one", Data: "0123"}, {Name: "none"}, {Name: "two", Data: "45"}}
	for wrong := range 4 {
		bodies := []string{}
		for i, packet := range refPackets(set, 4, 0)[1:] {
			body := []byte(packet[14 : len(packet)-8])
			if i == wrong {
				body[2+len(set[i].Name)+2] ^= 1
			}
			bodies = append(bodies, string(body))
		}
		if wrong < 3 {
			checkUnmade(t, set[wrong].Name+" is another", set, toldFiles(bodies...), api.ErrHash)
		} else {
			checkMade(t, "none is another", set, toldFiles(bodies...), set)
		}
	}
}

// TestP7TheFirstPieceCounts: two texts have one hash, so that either is taken
// for the other; a hash that goes on behind them can't tell them apart, one
// that begins ahead of them can.
func TestP7TheFirstPieceCounts(t *testing.T) {
	one, other, ahead := "5BkHdbiE2aQR", "67IFzjpKGQjW", "0123456789ab"
	first := []api.File{{Name: "a", Data: one + ahead}}
	second := []api.File{{Name: "a", Data: ahead + one}}
	packets := refPackets(first, 12, 1)
	checkMade(t, "the right one", named(other[1:], one+other, ahead), packets, first)
	checkMade(t, "the other one", named(other, one, ahead), packets, []api.File{{Name: "a", Data: other + ahead}})
	checkUnmade(t, "the other one, and a slice is made out of it", named(other, one), packets, api.ErrHash)
	checkMade(t, "a slice is made out of the right one", named(one, other), packets, first)
	packets = refPackets(second, 12, 1)
	checkMade(t, "the right one behind", named(ahead, one, other), packets, second)
	checkUnmade(t, "the other one behind", named(ahead, other, one), packets, api.ErrHash)
	checkUnmade(t, "the other one behind, in one file", named(ahead+"_"+other+one), packets, api.ErrHash)
}

func TestP7RefusesAsLookDoes(t *testing.T) {
	packets := refPackets(pair, 4, 1)
	all := strings.Join(packets, "")
	long := strings.Repeat("x", 4001)
	a := fileText(0, "a", 5, 2)
	cases := []struct {
		what    string
		files   []api.File
		volumes []string
		want    api.Errno
	}{
		{"13 files", append(slices.Clone(pair), make([]api.File, 11)...), packets, api.ErrArg},
		{"401 bytes", append(slices.Clone(pair), named(long[:401])...), packets, api.ErrArg},
		{"41 volumes", pair, append(make([]string, 40), all), api.ErrArg},
		{"4001 bytes of a volume", pair, []string{all, long}, api.ErrArg},
		{"no volume", pair, nil, api.ErrSet},
		{"no M packet", pair, packets[1:], api.ErrSet},
		{"an M packet of another hash", pair, append([]string{refPacket("M", 1, packets[0][14:len(packets[0])-8])}, packets[1:]...), api.ErrSet},
		{"an F packet is not there", pair, slices.Delete(slices.Clone(packets), 1, 2), api.ErrList},
		{"two files of one name", pair, toldFiles(a, fileText(1, "a", 5, 2)), api.ErrList},
		{"61 slices", pair, toldFiles(fileText(0, "a", 241, 61)), api.ErrList},
		{"no slice", pair, toldFiles(fileText(0, "a", 0, 0)), api.ErrList},
	}
	for _, c := range cases {
		checkUnmade(t, c.what, c.files, c.volumes, c.want)
	}
	checkMade(t, "12 files", append(slices.Clone(pair), make([]api.File, 10)...), packets, pair)
	checkMade(t, "400 bytes", append(named(long[:400]), pair...), packets, pair)
	checkMade(t, "40 volumes", pair, append(make([]string, 39), all), pair)
	checkMade(t, "4000 bytes of a volume", pair, []string{long[:4000-len(all)] + all}, pair)
}

// randomLosses answers what may be left of a set: mostly enough to make it anew,
// and now and then an R packet that says something else.
func randomLosses(random *rand.Rand) ([]api.File, []string) {
	set, size := randomSet(random, 40), 2*(1+random.Intn(16))
	packets := refPackets(append(set, api.File{Name: "last", Data: "some bytes"})[:max(1, min(6, len(set)+1))], size, random.Intn(12))
	if random.Intn(2) == 0 {
		packets = append(packets, extraOf(packets[0], random.Intn(4), randomText(random, size)))
	}
	random.Shuffle(len(packets), func(i int, k int) { packets[i], packets[k] = packets[k], packets[i] })
	return randomHanded(random, set), randomVolumes(random, packets)
}

// TestP7AgainstTheReference sees to it, too, that every answer comes up.
func TestP7AgainstTheReference(t *testing.T) {
	random := rand.New(rand.NewSource(7))
	seen := map[api.Errno]int{}
	for i := range 3000 {
		files, volumes := randomLosses(random)
		if i%3 == 0 {
			files, volumes = randomRemains(random)
		}
		got, errno := salvage.Repair(files, volumes)
		if want, wantErrno := refRepair(files, volumes); errno != wantErrno || !slices.Equal(got, want) {
			t.Fatalf("Repair(%q, %q) = %q, %d, want %q, %d", files, volumes, got, errno, want, wantErrno)
		}
		seen[errno]++
	}
	for _, errno := range []api.Errno{api.OK, api.ErrSet, api.ErrList, api.ErrLost, api.ErrHash} {
		if seen[errno] < 50 {
			t.Errorf("the error %d has come only %d times", errno, seen[errno])
		}
	}
}
