package salvage

import (
	"strings"

	"salvage/api"
	"salvage/field"
	"salvage/fileset"
	"salvage/packet"
)

// repair makes the files of the set out of what is left of it.
func (r remains) repair() ([]api.File, api.Errno) {
	if r.lost() > len(r.extras) {
		return nil, api.ErrLost
	}
	made := r.joinFiles(r.allSlices())
	for i, file := range r.files {
		if packet.Hash(made[i].Data) != file.Hash {
			return nil, api.ErrHash
		}
	}
	return made, api.OK
}

// allSlices answers the slices of the set: those that are present as they were
// found, the others made anew.
func (r remains) allSlices() []string {
	points, rows := r.knownRows()
	curve := field.Through(points)
	all := make([]string, r.count)
	for number := range all {
		if piece, present := r.pieces[number]; present {
			all[number] = piece.Text
			continue
		}
		weights := curve.Weights(uint16(number))
		all[number] = field.Mix(rows, weights, r.size/2).Text()
	}
	return all
}

// knownRows answers just as many rows as the set has slices, and the numbers at
// which they stand: R packets take the places of the slices that are lost.
func (r remains) knownRows() ([]uint16, []field.Row) {
	points, rows := []uint16{}, []field.Row{}
	for number := range r.count {
		if piece, present := r.pieces[number]; present {
			points = append(points, uint16(number))
			rows = append(rows, field.ReadRow(piece.Text))
		}
	}
	for _, extra := range r.extras[:r.lost()] {
		points = append(points, uint16(r.count+extra.Number))
		rows = append(rows, field.ReadRow(extra.Slice))
	}
	return points, rows
}

// joinFiles puts the files of the set together out of its slices.
func (r remains) joinFiles(slices []string) []api.File {
	files := make([]api.File, len(r.files))
	for i, file := range r.files {
		count := len(file.Slices)
		files[i] = api.File{
			// The name lies in a volume that was handed in.
			Name: strings.Clone(file.Name),
			Data: fileset.Join(slices[:count], file.Length),
		}
		slices = slices[count:]
	}
	return files
}
