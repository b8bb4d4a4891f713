package salvage

import (
	"salvage/api"
	"salvage/packet"
	"salvage/search"
	"salvage/volume"
)

// remains is what is left of a set.
type remains struct {
	size   int                  // bytes of a slice
	files  []packet.FileInfo    // of the set, in its order
	count  int                  // of all slices
	pieces map[int]search.Piece // the slices that are present, by their numbers
	extras []packet.ExtraInfo   // the least numbers first
}

// gather finds what is left of the set that volumes tell of.
func gather(files []api.File, volumes []string) (remains, api.Errno) {
	if !areHandable(files, volumes) {
		return remains{}, api.ErrArg
	}
	set, known := volume.Read(volumes)
	if !known {
		return remains{}, api.ErrSet
	}
	listed, all := set.Files()
	hashes := sliceHashes(listed)
	if !all || shareName(listed) || len(hashes) < 1 || len(hashes) > api.MaxSlices {
		return remains{}, api.ErrList
	}
	return remains{
		size:   set.Size(),
		files:  listed,
		count:  len(hashes),
		pieces: search.Find(files, set.Size(), hashes),
		extras: set.Extras(),
	}, api.OK
}

// areHandable tells whether files and volumes keep to the bounds of what may
// be handed in.
func areHandable(files []api.File, volumes []string) bool {
	if len(files) > api.MaxHanded || len(volumes) > api.MaxVolumes {
		return false
	}
	for _, file := range files {
		if len(file.Data) > api.MaxData {
			return false
		}
	}
	for _, text := range volumes {
		if len(text) > api.MaxVolume {
			return false
		}
	}
	return true
}

// sliceHashes answers the hashes of the slices of all files.
func sliceHashes(files []packet.FileInfo) []uint64 {
	hashes := []uint64{}
	for _, file := range files {
		hashes = append(hashes, file.Slices...)
	}
	return hashes
}

// shareName tells whether two of the files have one name.
func shareName(files []packet.FileInfo) bool {
	numbers := map[string]int{}
	for _, file := range files {
		numbers[file.Name] = file.Number
	}
	return len(numbers) < len(files)
}

// report tells what is left of the set, out of the files that were handed in.
func (r remains) report(handed []api.File) api.Report {
	states := make([]int, len(r.files))
	for i, file := range r.files {
		states[i] = stateOf(file, handed)
	}
	present := make([]bool, r.count)
	for number := range r.pieces {
		present[number] = true
	}
	return api.Report{
		States:  states,
		Present: present,
		Lost:    r.lost(),
		Extra:   len(r.extras),
	}
}

// lost answers how many slices are not present.
func (r remains) lost() int { return r.count - len(r.pieces) }

// stateOf tells the state of a file of the set: only the first one of its name
// that was handed in counts.
func stateOf(file packet.FileInfo, handed []api.File) int {
	for _, other := range handed {
		if other.Name != file.Name {
			continue
		}
		if len(other.Data) == file.Length && packet.Hash(other.Data) == file.Hash {
			return api.Whole
		}
		return api.Damaged
	}
	return api.Missing
}
