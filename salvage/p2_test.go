package salvage_test

import (
	"math/rand"
	"slices"
	"sync"
	"testing"

	"salvage/api"
	"salvage/salvage"
)

// roomyFiles answers a set in a list with spare room, and the whole of its memory.
func roomyFiles() ([]api.File, []api.File) {
	whole := []api.File{
		{Name: "first", Data: "some bytes"}, {Name: "second"}, {Name: "third", Data: "more of them"},
		{Name: "spare", Data: "room"}, {Name: "spare too", Data: "room"},
	}
	return whole[:3], whole
}

func TestP2CreateLeavesItsListAlone(t *testing.T) {
	for _, arguments := range [][2]int{{4, 5}, {2, 20}, {32, 0}, {3, 1}, {2, 21}} {
		files, whole := roomyFiles()
		salvage.Create(files, arguments[0], arguments[1])
		if _, want := roomyFiles(); !slices.Equal(whole, want) {
			t.Errorf("slice %d, extra %d: the list has become %q", arguments[0], arguments[1], whole)
		}
	}
}

func TestP2CreateKeepsNothing(t *testing.T) {
	files, whole := roomyFiles()
	packets, _ := salvage.Create(files, 4, 5)
	want := slices.Clone(packets)
	for i := range whole {
		whole[i] = api.File{Name: "other", Data: "other"}
	}
	if !slices.Equal(packets, want) {
		t.Errorf("the packets changed with the list: %q", packets)
	}
}

func TestP2CreateAnswersNewMemory(t *testing.T) {
	files, _ := roomyFiles()
	first, _ := salvage.Create(files, 4, 5)
	want := slices.Clone(first)
	second, _ := salvage.Create(files, 4, 5)
	for i := range first[:cap(first)] {
		first[:cap(first)][i] = "overwritten"
	}
	if !slices.Equal(second, want) {
		t.Errorf("two answers share memory: %q", second)
	}
	if third, _ := salvage.Create(files, 4, 5); !slices.Equal(third, want) {
		t.Errorf("an answer is kept: %q", third)
	}
}

func TestP2CreateHangsOnItsArgumentsAlone(t *testing.T) {
	random := rand.New(rand.NewSource(1))
	for range 50 {
		files, slice, extra := randomSet(random, 40), 2*(2+random.Intn(15)), random.Intn(21)
		want, wantErrno := salvage.Create(files, slice, extra)
		salvage.Create(randomSet(random, 40), 8, 20)
		salvage.Create(nil, 2, 2)
		roomy := append(make([]api.File, 0, 50), files...)
		if got, errno := salvage.Create(roomy, slice, extra); errno != wantErrno || !slices.Equal(got, want) {
			t.Fatalf("the same arguments: %q, %d, then %q, %d", want, wantErrno, got, errno)
		}
	}
}

func TestP2CreateSideBySide(t *testing.T) {
	files, _ := roomyFiles()
	want, _ := salvage.Create(files, 2, 20)
	answers := make([][]string, 8)
	var group sync.WaitGroup
	for i := range answers {
		group.Go(func() { answers[i], _ = salvage.Create(files, 2, 20) })
	}
	group.Wait()
	for i, got := range answers {
		if !slices.Equal(got, want) {
			t.Errorf("call %d answers otherwise: %q", i, got)
		}
	}
}
