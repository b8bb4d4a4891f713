package salvage_test

import (
	"math/bits"
	"math/rand"
	"slices"
	"strings"
	"testing"

	"salvage/api"
	"salvage/salvage"
)

// created answers the packets of a set.
func created(t *testing.T, set []api.File, size int, extra int) []string {
	t.Helper()
	packets, errno := salvage.Create(set, size, extra)
	if errno != api.OK {
		t.Fatalf("Create(%q, %d, %d): error %d", set, size, extra, errno)
	}
	return packets
}

// chosen answers those texts whose bits are set.
func chosen(texts []string, mask int) []string {
	some := []string{}
	for i, text := range texts {
		if mask>>i&1 == 1 {
			some = append(some, text)
		}
	}
	return some
}

// TestP8EveryChoice: whichever slices are lost, and whichever R packets are
// left.
func TestP8EveryChoice(t *testing.T) {
	set := []api.File{{Name: "first", Data: "\x00\x00\x00\x01ab"}, {Name: "none"}, {Name: "last", Data: "cdefghi"}}
	pieces := []string{"\x00\x00\x00\x01", "ab\x00\x00", "cdef", "ghi"}
	packets := created(t, set, 4, 6)
	listed, extras := packets[:4], packets[4:]
	for present := range 1 << len(pieces) {
		for left := range 1 << len(extras) {
			files := named(chosen(pieces, present)...)
			volumes := slices.Concat(chosen(extras, left), listed)
			if lost := len(pieces) - bits.OnesCount(uint(present)); lost <= bits.OnesCount(uint(left)) {
				checkMade(t, "enough is left", files, volumes, set)
			} else {
				checkUnmade(t, "too much is lost", files, volumes, api.ErrLost)
			}
		}
	}
}

// scatter lays pieces into files, at odd places and with other bytes between.
func scatter(random *rand.Rand, pieces []string) []api.File {
	files := make([]api.File, api.MaxHanded)
	for i, at := range random.Perm(len(pieces)) {
		file := &files[i%len(files)]
		file.Name = randomText(random, random.Intn(3))
		file.Data += randomText(random, random.Intn(8)) + pieces[at]
	}
	return files
}

// wideSet answers a set of just so many slices of a size, of bytes at random.
func wideSet(random *rand.Rand, slices int, size int) []api.File {
	set := []api.File{}
	for name := 'a'; slices > 0; name++ {
		count := min(slices, 12)
		length := count*size - random.Intn(size)
		set = append(set, api.File{Name: string(name), Data: randomText(random, length)})
		slices -= count
	}
	return set
}

// piecesOf answers the slices of a set.
func piecesOf(set []api.File, size int) []string {
	pieces := []string{}
	for _, file := range set {
		pieces = append(pieces, refSlices(file.Data, size)...)
	}
	return pieces
}

// some answers so many of the texts, in any order.
func some(random *rand.Rand, texts []string, count int) []string {
	shuffled := slices.Clone(texts)
	random.Shuffle(len(shuffled), func(i int, k int) { shuffled[i], shuffled[k] = shuffled[k], shuffled[i] })
	return shuffled[:count]
}

// TestP8WhatIsLostComesBack: up to the most slices and R packets that there may
// be; with one piece less it does not come back.
func TestP8WhatIsLostComesBack(t *testing.T) {
	random := rand.New(rand.NewSource(8))
	for i := range 300 {
		// Slices of few bytes come up twice, and would be found though lost.
		size, count, extra := 2*(4+random.Intn(13)), 1+random.Intn(60), random.Intn(21)
		if i%3 == 0 {
			count, extra = 60, 20
		}
		set := wideSet(random, count, size)
		packets := created(t, set, size, extra)
		listed, extras := packets[:1+len(set)], packets[1+len(set):]
		lost := min(count, random.Intn(extra+1))
		if i%2 == 0 {
			lost = min(count, extra)
		}
		kept := some(random, piecesOf(set, size), count-lost)
		volumes := some(random, slices.Concat(listed, some(random, extras, lost)), len(listed)+lost)
		joined := []string{strings.Join(volumes[:len(volumes)/2], "?"), strings.Join(volumes[len(volumes)/2:], "SAL")}
		files := scatter(random, kept)
		checkMade(t, "just enough is left", files, volumes, set)
		checkMade(t, "just enough is left, in two volumes", files, joined, set)
		if len(kept) > 0 {
			checkUnmade(t, "a slice more is lost", scatter(random, kept[1:]), volumes, api.ErrLost)
		}
	}
}

// TestP8DamagedFiles: what befalls files as wholes.
func TestP8DamagedFiles(t *testing.T) {
	random := rand.New(rand.NewSource(9))
	set := wideSet(random, 30, 8)
	one, two, three := set[0].Data, set[1].Data, set[2].Data
	packets := created(t, set, 8, 12)
	a, b, c := set[0], set[1], set[2]
	file := func(name string, data string) api.File { return api.File{Name: name, Data: data} }
	cases := []struct {
		what  string
		files []api.File
	}{
		{"nothing", set},
		{"a file is gone", []api.File{a, c}},
		{"another one is gone", []api.File{c, b}},
		{"a file is empty", []api.File{a, b, file("c", "")}},
		{"a file is another one", []api.File{a, b, file("c", strings.Repeat("another", 50))}},
		{"names are changed round", []api.File{file("b", one), file("c", two), file("a", three)}},
		{"all have one name", []api.File{file("a", two), file("a", three), file("a", one)}},
		{"shifted", []api.File{file("a", "?"+one), file("b", two[1:]), file("c", "1234567"+three)}},
		{"cut off", []api.File{file("a", one[:50]), file("b", two[:60]), file("c", three[:40])}},
		{"bytes are changed", []api.File{file("a", one[:20]+"X"+one[21:]), file("b", "Y"+two[1:]), c}},
		{"bytes are put in", []api.File{file("a", one[:13]+"put in"+one[13:]), file("b", two[:80]+"!"+two[80:]), c}},
		{"bytes are taken out", []api.File{file("a", one[:20]+one[21:]), file("b", two[:31]+two[33:]), file("c", three[1:])}},
		{"one on end of another", []api.File{file("x", "__"+three[:40]+one+two)}},
	}
	for _, c := range cases {
		checkMade(t, c.what, c.files, packets, set)
	}
}
