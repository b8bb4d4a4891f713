// Package search: the slices of a set, wherever in files they lie.
package search

import (
	"strings"

	"salvage/api"
	"salvage/packet"
)

// Piece is the bytes that were found for a slice.
type Piece struct {
	Text string
}

// Find looks in files for slices of the given size with these hashes. It
// answers the first piece that has a slice's hash, by the slice's number.
func Find(files []api.File, size int, hashes []uint64) map[int]Piece {
	wanted := numbersOf(hashes)
	found := map[int]Piece{}
	for _, file := range files {
		// A slice at a file's end was filled up before it was hashed.
		filled := file.Data + strings.Repeat("\x00", size-1)
		for at := range len(file.Data) {
			piece := Piece{filled[at : at+size]}
			hash := packet.Hash(piece.Text)
			for _, number := range wanted[hash] {
				found[number] = piece
			}
			// A later piece with this hash must not take the first one's place.
			delete(wanted, hash)
		}
	}
	return found
}

// numbersOf answers, by their hash, the numbers of the slices that have it.
func numbersOf(hashes []uint64) map[uint64][]int {
	numbers := map[uint64][]int{}
	for number, hash := range hashes {
		numbers[hash] = append(numbers[hash], number)
	}
	return numbers
}
