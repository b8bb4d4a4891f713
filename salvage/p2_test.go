package salvage_test

import (
	"math/rand"
	"slices"
	"strings"
	"sync"
	"testing"
	"unsafe"

	"salvage/api"
	"salvage/salvage"
)

// roomyFiles answers a set in a list with spare room, and the whole of its memory.
func roomyFiles() ([]api.File, []api.File) {
	whole := []api.File{
		{Name: "first", Data: "some bytes"}, {Name: "second"}, {Name: "third", Data: "more of them"},
		{Name: "spare", Data: "room"}, {Name: "spare too", Data: "room"},
	}
	return whole[:3], whole
}

func TestP2CreateLeavesItsListAlone(t *testing.T) {
	for _, arguments := range [][2]int{{4, 5}, {2, 20}, {32, 0}, {3, 1}, {2, 21}} {
		files, whole := roomyFiles()
		salvage.Create(files, arguments[0], arguments[1])
		if _, want := roomyFiles(); !slices.Equal(whole, want) {
			t.Errorf("slice %d, extra %d: the list has become %q", arguments[0], arguments[1], whole)
		}
	}
}

func TestP2CreateKeepsNothing(t *testing.T) {
	files, whole := roomyFiles()
	packets, _ := salvage.Create(files, 4, 5)
	want := slices.Clone(packets)
	for i := range whole {
		whole[i] = api.File{Name: "other", Data: "other"}
	}
	if !slices.Equal(packets, want) {
		t.Errorf("the packets changed with the list: %q", packets)
	}
}

func TestP2CreateAnswersNewMemory(t *testing.T) {
	files, _ := roomyFiles()
	first, _ := salvage.Create(files, 4, 5)
	want := slices.Clone(first)
	second, _ := salvage.Create(files, 4, 5)
	for i := range first[:cap(first)] {
		first[:cap(first)][i] = "overwritten"
	}
	if !slices.Equal(second, want) {
		t.Errorf("two answers share memory: %q", second)
	}
	if third, _ := salvage.Create(files, 4, 5); !slices.Equal(third, want) {
		t.Errorf("an answer is kept: %q", third)
	}
}

func TestP2CreateHangsOnItsArgumentsAlone(t *testing.T) {
	random := rand.New(rand.NewSource(1))
	for range 50 {
		files, slice, extra := randomSet(random, 40), 2*(2+random.Intn(15)), random.Intn(21)
		want, wantErrno := salvage.Create(files, slice, extra)
		salvage.Create(randomSet(random, 40), 8, 20)
		salvage.Create(nil, 2, 2)
		roomy := append(make([]api.File, 0, 50), files...)
		if got, errno := salvage.Create(roomy, slice, extra); errno != wantErrno || !slices.Equal(got, want) {
			t.Fatalf("the same arguments: %q, %d, then %q, %d", want, wantErrno, got, errno)
		}
	}
}

func TestP2CreateSideBySide(t *testing.T) {
	files, _ := roomyFiles()
	want, _ := salvage.Create(files, 2, 20)
	answers := make([][]string, 8)
	var group sync.WaitGroup
	for i := range answers {
		group.Go(func() { answers[i], _ = salvage.Create(files, 2, 20) })
	}
	group.Wait()
	for i, got := range answers {
		if !slices.Equal(got, want) {
			t.Errorf("call %d answers otherwise: %q", i, got)
		}
	}
}

// roomyRemains answers what is left of a set, in lists with spare room, and the
// whole of their memory.
func roomyRemains() ([]api.File, []api.File, []string, []string) {
	packets := refPackets(pair, 4, 3)
	files := []api.File{
		{Name: "two", Data: "cdefXhijklmnop"}, {Name: "other", Data: "_0123_89ab"}, {Name: "one"},
		{Name: "one", Data: "0123456789ab"}, {Name: "spare", Data: "4567"},
	}
	volumes := append([]string{"?" + packets[5] + packets[2]}, packets...)
	return files[:3], files, volumes[:5], volumes
}

func TestP2LookAndRepairLeaveTheirListsAlone(t *testing.T) {
	_, wantFiles, _, wantVolumes := roomyRemains()
	files, wholeFiles, volumes, wholeVolumes := roomyRemains()
	for from := range len(volumes) + 1 {
		salvage.Look(files[:from%4], volumes[from:])
		salvage.Repair(files[:from%4], volumes[from:])
		if !slices.Equal(wholeFiles, wantFiles) || !slices.Equal(wholeVolumes, wantVolumes) {
			t.Fatalf("volumes from %d on: the lists have become %q, %q", from, wholeFiles, wholeVolumes)
		}
	}
	// What lies in the spare room is not handed in.
	checkReport(t, "with spare room", files, volumes, []int{2, 2}, "1011011", 2)
	checkMade(t, "with spare room", files, volumes, pair)
	checkUnmade(t, "with spare room, and a packet less", files, volumes[1:], api.ErrLost)
}

func TestP2LookKeepsNothing(t *testing.T) {
	files, wholeFiles, volumes, wholeVolumes := roomyRemains()
	report, errno := salvage.Look(files, volumes)
	for i := range wholeFiles {
		wholeFiles[i] = api.File{Name: "changed", Data: "changed"}
	}
	for i := range wholeVolumes {
		wholeVolumes[i] = "changed"
	}
	files, _, volumes, _ = roomyRemains()
	if again, _ := salvage.Look(files, volumes); errno != api.OK || !equalReports(again, report) {
		t.Errorf("the report was %+v, error %d, and is %+v with changed lists", report, errno, again)
	}
	checkRefused(t, "nothing, after a set", nil, nil, api.ErrSet)
}

// overwrite fills a report's lists, up to the ends of their spare room.
func overwrite(report api.Report) {
	states, present := report.States[:cap(report.States)], report.Present[:cap(report.Present)]
	for i := range states {
		states[i] = -1
	}
	for i := range present {
		present[i] = i%2 == 0
	}
}

func TestP2LookAnswersNewMemory(t *testing.T) {
	files, _, volumes, _ := roomyRemains()
	first, _ := salvage.Look(files, volumes)
	second, _ := salvage.Look(files, volumes)
	want := api.Report{States: []int{2, 2}, Present: slices.Clone(second.Present), Lost: 2, Extra: 2}
	overwrite(first)
	if !equalReports(second, want) {
		t.Errorf("two answers share memory: %+v", second)
	}
	if third, _ := salvage.Look(files, volumes); !equalReports(third, want) {
		t.Errorf("an answer is kept: %+v", third)
	}
}

func TestP2LookHangsOnItsArgumentsAlone(t *testing.T) {
	random := rand.New(rand.NewSource(2))
	for range 300 {
		files, volumes := randomRemains(random)
		want, wantErrno := salvage.Look(files, volumes)
		for range 3 {
			salvage.Look(randomRemains(random))
			roomyFiles := append(make([]api.File, 0, 50), files...)
			roomyVolumes := append(make([]string, 0, 90), volumes...)
			if got, errno := salvage.Look(roomyFiles, roomyVolumes); errno != wantErrno || !equalReports(got, want) {
				t.Fatalf("the same arguments: %+v, %d, then %+v, %d", want, wantErrno, got, errno)
			}
		}
	}
}

func TestP2LookSideBySide(t *testing.T) {
	files, _, volumes, _ := roomyRemains()
	want, _ := salvage.Look(files, volumes)
	answers := make([]api.Report, 8)
	var group sync.WaitGroup
	for i := range answers {
		group.Go(func() { answers[i], _ = salvage.Look(files, volumes) })
	}
	group.Wait()
	for i, got := range answers {
		if !equalReports(got, want) {
			t.Errorf("call %d answers otherwise: %+v", i, got)
		}
	}
}

func TestP2RepairKeepsNothing(t *testing.T) {
	files, wholeFiles, volumes, wholeVolumes := roomyRemains()
	made, errno := salvage.Repair(files, volumes)
	for i := range wholeFiles {
		wholeFiles[i] = api.File{Name: "changed", Data: "changed"}
	}
	for i := range wholeVolumes {
		wholeVolumes[i] = "changed"
	}
	if errno != api.OK || !slices.Equal(made, pair) {
		t.Errorf("the files are %q, error %d, with changed lists", made, errno)
	}
	checkUnmade(t, "nothing, after a set", nil, nil, api.ErrSet)
	checkUnmade(t, "the packets alone, after a set", nil, refPackets(pair, 4, 3), api.ErrLost)
}

func TestP2RepairAnswersNewMemory(t *testing.T) {
	files, _, volumes, _ := roomyRemains()
	first, _ := salvage.Repair(files, volumes)
	second, _ := salvage.Repair(files, volumes)
	for i := range first[:cap(first)] {
		first[:cap(first)][i] = api.File{Name: "overwritten", Data: "overwritten"}
	}
	if !slices.Equal(second, pair) {
		t.Errorf("two answers share memory: %q", second)
	}
	checkMade(t, "an answer is kept", files, volumes, pair)
	// The list that is handed in may be just what comes out.
	whole := slices.Clone(pair)
	made, _ := salvage.Repair(whole, volumes)
	made[0].Name = "changed"
	if !slices.Equal(whole, pair) {
		t.Errorf("the answer is the list that was handed in: %q", whole)
	}
}

// overlap tells whether two texts lie in the same memory somewhere.
func overlap(one string, other string) bool {
	if one == "" || other == "" {
		return false
	}
	at := uintptr(unsafe.Pointer(unsafe.StringData(one)))
	otherAt := uintptr(unsafe.Pointer(unsafe.StringData(other)))
	return at < otherAt+uintptr(len(other)) && otherAt < at+uintptr(len(one))
}

// TestP2RepairAnswersNewTexts: names lie in volumes, and bytes in files; files
// of one slice would be pieces of one text.
func TestP2RepairAnswersNewTexts(t *testing.T) {
	random := rand.New(rand.NewSource(5))
	for range 200 {
		set, size := randomSet(random, 12), 2*(2+random.Intn(6))
		set[0].Data = "same bytes"
		set = append(set[:min(5, len(set))], api.File{Name: "again", Data: "same bytes"})
		volumes := []string{strings.Join(refPackets(set, size, 2), "?")}
		made, errno := salvage.Repair(set, volumes)
		if errno != api.OK {
			t.Fatalf("%q: error %d", set, errno)
		}
		given, texts := volumes, []string{}
		for i := range set {
			given = append(given, set[i].Name, set[i].Data)
			texts = append(texts, made[i].Name, made[i].Data)
		}
		for i, text := range texts {
			for _, other := range slices.Concat(given, texts[:i]) {
				if overlap(text, other) {
					t.Fatalf("%q shares memory with %q", text, other)
				}
			}
		}
	}
}

func TestP2RepairHangsOnItsArgumentsAlone(t *testing.T) {
	random := rand.New(rand.NewSource(4))
	for range 300 {
		files, volumes := randomLosses(random)
		want, wantErrno := salvage.Repair(files, volumes)
		for range 3 {
			salvage.Repair(randomLosses(random))
			roomyFiles := append(make([]api.File, 0, 50), files...)
			roomyVolumes := append(make([]string, 0, 90), volumes...)
			if got, errno := salvage.Repair(roomyFiles, roomyVolumes); errno != wantErrno || !slices.Equal(got, want) {
				t.Fatalf("the same arguments: %q, %d, then %q, %d", want, wantErrno, got, errno)
			}
		}
	}
}

func TestP2RepairSideBySide(t *testing.T) {
	files, _, volumes, _ := roomyRemains()
	answers := make([][]api.File, 8)
	var group sync.WaitGroup
	for i := range answers {
		group.Go(func() { answers[i], _ = salvage.Repair(files, volumes) })
	}
	group.Wait()
	for i, got := range answers {
		if !slices.Equal(got, pair) {
			t.Errorf("call %d answers otherwise: %q", i, got)
		}
	}
}
