package volume

import (
	"slices"
	"strings"
	"testing"

	"salvage/api"
	"salvage/packet"
)

// sample answers the packets of two files, of slices of 2 bytes, with two R
// packets that hold any slices.
func sample() (main string, files []string, extras []string) {
	one := packet.FileBody(0, api.File{Name: "one", Data: "abc"}, []string{"ab", "c\x00"})
	two := packet.FileBody(1, api.File{Name: "two", Data: "d"}, []string{"d\x00"})
	body := packet.MainBody(2, []uint64{packet.Hash(one), packet.Hash(two)})
	set := packet.Hash(body)
	files = []string{packet.Seal(packet.File, set, one), packet.Seal(packet.File, set, two)}
	return packet.Seal(packet.Main, set, body), files, []string{extra(set, 0, "r0"), extra(set, 7, "r7")}
}

// extra answers an R packet.
func extra(set uint64, number int, slice string) string {
	return packet.Seal(packet.Extra, set, packet.ExtraBody(number, slice))
}

// setOf answers the set's hash that a packet has.
func setOf(sealed string) uint64 {
	opened, _ := packet.Open(sealed)
	return opened.Set
}

// bodyOf answers a packet's body.
func bodyOf(sealed string) string {
	opened, _ := packet.Open(sealed)
	return opened.Body
}

// found answers the bodies that a walk hands over.
func found(volume string) []string {
	bodies := []string{}
	walk(volume, func(next packet.Packet) { bodies = append(bodies, next.Body) })
	return bodies
}

func TestWalk(t *testing.T) {
	one, two := packet.Seal(packet.Main, 1, "one"), packet.Seal(packet.File, 2, "two")
	inner := packet.Seal(packet.Extra, 3, one)
	foreign := packet.Seal('X', 4, one)
	broken := "SALF" + strings.Repeat("\x00", 9) + "\x2f" + inner + "wrong ha"
	cases := []struct {
		what   string
		volume string
		want   []string
	}{
		{"nothing", "", nil},
		{"other bytes", "SAL SALM SALSALF", nil},
		{"one", one, []string{"one"}},
		{"two on end", one + two, []string{"one", "two"}},
		{"two, the other way round", two + one, []string{"two", "one"}},
		{"bytes around", "S" + one + "SA" + two + "SAL", []string{"one", "two"}},
		{"letters right ahead", "SAL" + one, []string{"one"}},
		{"a half one ahead", one[:20] + two, []string{"two"}},
		{"cut off at the end", one + two[:len(two)-1], []string{"one"}},
		{"its first byte is missing", one[1:] + two, []string{"two"}},
		{"one inside another", inner + two, []string{one, "two"}},
		{"one inside a kind that there is not", foreign + two, []string{"one", "two"}},
		{"one inside a broken one", broken + two, []string{one, "two"}},
		{"a length beyond the end", "SALM" + strings.Repeat("\x00", 8) + "\xff\xff" + one, []string{"one"}},
	}
	for _, c := range cases {
		if got := found(c.volume); !slices.Equal(got, c.want) {
			t.Errorf("%s: %q, want %q", c.what, got, c.want)
		}
	}
}

func TestWalkKnowsThreeKinds(t *testing.T) {
	for kind := range 256 {
		want := []string{}
		if strings.IndexByte("MFR", byte(kind)) >= 0 {
			want = []string{"body"}
		}
		if got := found(packet.Seal(byte(kind), 1, "body")); !slices.Equal(got, want) {
			t.Errorf("kind %d: %q", kind, got)
		}
	}
}

// tells answers what a set says, for short: its files' names, and its R
// packets' slices.
func tells(t *testing.T, volumes ...string) string {
	t.Helper()
	set, known := Read(volumes)
	if !known {
		return "unknown"
	}
	words := []string{}
	files, all := set.Files()
	for _, file := range files {
		words = append(words, file.Name)
	}
	if !all {
		words = append(words, "(not all)")
	}
	for _, extra := range set.Extras() {
		words = append(words, extra.Slice)
	}
	return strings.Join(words, " ")
}

func TestReadPutsInOrder(t *testing.T) {
	main, files, extras := sample()
	all := []string{main, files[0], files[1], extras[0], extras[1]}
	backwards := slices.Clone(all)
	slices.Reverse(backwards)
	joined, joinedBackwards := strings.Join(all, ""), strings.Join(backwards, "??")
	// A map's order differs from call to call.
	for range 50 {
		for _, volumes := range [][]string{all, backwards, {joined}, {joinedBackwards}, {"", joined, joined}} {
			if got := tells(t, volumes...); got != "one two r0 r7" {
				t.Fatalf("%q tell of %q", volumes, got)
			}
		}
	}
}

func TestReadTakesTheFirstSet(t *testing.T) {
	main, files, extras := sample()
	body := packet.MainBody(4, []uint64{packet.Hash("any")})
	set := packet.Hash(body)
	other := packet.Seal(packet.Main, set, body)
	cases := []struct {
		what    string
		volumes []string
		want    string
	}{
		{"none", nil, "unknown"},
		{"no M packet", append(files, extras...), "unknown"},
		{"an M packet alone", []string{main}, "(not all)"},
		{"the other set behind", []string{main, files[0], files[1], extras[1], other, extra(set, 1, "4444")}, "one two r7"},
		{"the other set ahead", []string{other, extra(set, 1, "4444"), main, files[0], files[1], extras[1]}, "(not all) 4444"},
		{"the other set ahead in one volume", []string{files[0] + other + main}, "(not all)"},
		{"an M packet with another hash ahead", []string{packet.Seal(packet.Main, set+1, body), main, files[0]}, "one (not all)"},
		{"M packets without their form ahead", []string{badMain(""), badMain("\x00\x02"), badMain("\x00\x03\x01hashhash"), main, files[1]}, "two (not all)"},
		{"another kind with an M packet's body", []string{packet.Seal(packet.File, set, body), packet.Seal(packet.Extra, set, body)}, "unknown"},
	}
	for _, c := range cases {
		if got := tells(t, c.volumes...); got != c.want {
			t.Errorf("%s: %q, want %q", c.what, got, c.want)
		}
	}
}

// badMain answers a right M packet with any body.
func badMain(body string) string {
	return packet.Seal(packet.Main, packet.Hash(body), body)
}

// TestReadWithoutSetReadsNoOther: packets whose set's hash is that of no set,
// 0, meet nothing to be held against.
func TestReadWithoutSetReadsNoOther(t *testing.T) {
	_, files, _ := sample()
	if got := tells(t, packet.Seal(packet.File, 0, bodyOf(files[0])), extra(0, 1, "")); got != "unknown" {
		t.Errorf("they tell of %q", got)
	}
}

func TestReadTakesFilesThatMNames(t *testing.T) {
	main, files, _ := sample()
	set := setOf(main)
	cases := []struct {
		what  string
		other string
		want  string
	}{
		{"the right one", files[1], "one two"},
		{"another set's hash", packet.Seal(packet.File, set+1, bodyOf(files[1])), "one (not all)"},
		{"another kind", packet.Seal(packet.Extra, set, bodyOf(files[1])), "one (not all)"},
		{"another body", packet.Seal(packet.File, set, packet.FileBody(1, api.File{Name: "two", Data: "e"}, []string{"e\x00"})), "one (not all)"},
		{"the first one's body as the second", packet.Seal(packet.File, set, "\x01"+bodyOf(files[0])[1:]), "one (not all)"},
		{"a number behind the last", packet.Seal(packet.File, set, "\x02"+bodyOf(files[1])[1:]), "one (not all)"},
		{"the greatest number", packet.Seal(packet.File, set, "\xff"+bodyOf(files[1])[1:]), "one (not all)"},
		{"no body", packet.Seal(packet.File, set, ""), "one (not all)"},
	}
	for _, c := range cases {
		for _, volumes := range [][]string{{main, files[0], c.other}, {c.other + files[0] + main}} {
			if got := tells(t, volumes...); got != c.want {
				t.Errorf("%s: %q, want %q", c.what, got, c.want)
			}
		}
	}
}

// TestReadHoldsFilesAgainstTheSize: the slices of a body that M has the hash of
// must be as many as M's slice size asks for.
func TestReadHoldsFilesAgainstTheSize(t *testing.T) {
	body := packet.FileBody(0, api.File{Name: "one", Data: "abc"}, []string{"ab", "c\x00"})
	for size := 2; size <= 32; size += 2 {
		main := packet.MainBody(size, []uint64{packet.Hash(body)})
		want := "(not all)"
		if size == 2 {
			want = "one"
		}
		volume := badMain(main) + packet.Seal(packet.File, packet.Hash(main), body)
		if got := tells(t, volume); got != want {
			t.Errorf("size %d: %q", size, got)
		}
	}
}

func TestReadTakesTheFirstOfOneNumber(t *testing.T) {
	main, files, _ := sample()
	set := setOf(main)
	volumes := []string{
		extra(set, 3, "bad"), extra(set, 3, "b"), extra(set+1, 3, "xx"), extra(set, 20, "xx"), extra(set, 65535, "xx"),
		extra(set, 19, "aa"), extra(set, 3, "bb"), main + extra(set, 3, "cc"), extra(set, 19, "dd"), extra(set, 0, "ee"),
		files[0], files[0], files[1], files[0],
	}
	if got := tells(t, volumes...); got != "one two ee bb aa" {
		t.Errorf("they tell of %q", got)
	}
	if got := tells(t, strings.Join(volumes, "")); got != "one two ee bb aa" {
		t.Errorf("in one volume they tell of %q", got)
	}
}

func TestReadTellsTheSize(t *testing.T) {
	for size := 2; size <= 32; size += 2 {
		set, known := Read([]string{badMain(packet.MainBody(size, []uint64{1}))})
		if !known || set.Size() != size {
			t.Errorf("size %d: %d, %t", size, set.Size(), known)
		}
	}
}
