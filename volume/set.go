package volume

import (
	"slices"

	"salvage/packet"
)

// Set is what packets say of a set of files.
type Set struct {
	known  bool
	hash   uint64
	main   packet.SetInfo
	files  map[int]packet.FileInfo  // by their numbers
	extras map[int]packet.ExtraInfo // by theirs
}

// readMain takes the first M packet that can be one.
func (s *Set) readMain(found packet.Packet) {
	main, right := packet.ReadMain(found.Body)
	if s.known || !right || packet.Hash(found.Body) != found.Set {
		return
	}
	s.known, s.hash, s.main = true, found.Set, main
}

// readFile takes an F packet that the M packet has the hash of.
func (s *Set) readFile(found packet.Packet) {
	if !s.owns(found) {
		return
	}
	file, right := packet.ReadFile(found.Body, s.main.Size)
	if right && file.Number < len(s.main.Files) && packet.Hash(found.Body) == s.main.Files[file.Number] {
		keepFirst(s.files, file.Number, file)
	}
}

// readExtra takes an R packet that has a slice.
func (s *Set) readExtra(found packet.Packet) {
	if !s.owns(found) {
		return
	}
	if extra, right := packet.ReadExtra(found.Body, s.main.Size); right {
		keepFirst(s.extras, extra.Number, extra)
	}
}

// owns tells whether a packet is of this set.
func (s *Set) owns(found packet.Packet) bool {
	return s.known && found.Set == s.hash
}

// keepFirst keeps what has this number, if nothing has it yet.
func keepFirst[T any](kept map[int]T, number int, found T) {
	if _, taken := kept[number]; !taken {
		kept[number] = found
	}
}

// Size answers how many bytes a slice has.
func (s *Set) Size() int { return s.main.Size }

// Files answers the files that have an F packet, in the set's order, and
// whether these are all of them.
func (s *Set) Files() ([]packet.FileInfo, bool) {
	return inOrder(s.files), len(s.files) == len(s.main.Files)
}

// Extras answers the R packets that count, the least numbers first.
func (s *Set) Extras() []packet.ExtraInfo { return inOrder(s.extras) }

// inOrder answers what a map holds, the least numbers first.
func inOrder[T any](kept map[int]T) []T {
	numbers := make([]int, 0, len(kept))
	for number := range kept {
		numbers = append(numbers, number)
	}
	slices.Sort(numbers)
	ordered := make([]T, len(numbers))
	for i, number := range numbers {
		ordered[i] = kept[number]
	}
	return ordered
}
