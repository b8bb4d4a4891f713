package salvage

import (
	"salvage/api"
	"salvage/field"
	"salvage/fileset"
	"salvage/packet"
)

// makePackets answers the packets of a set: M, then F of each file, then R.
func makePackets(files []api.File, size int, extra int) []string {
	bodies, rows := describe(files, size)
	main := packet.MainBody(size, hashAll(bodies))
	set := packet.Hash(main)
	packets := make([]string, 0, 1+len(files)+extra)
	packets = append(packets, packet.Seal(packet.Main, set, main))
	for _, body := range bodies {
		packets = append(packets, packet.Seal(packet.File, set, body))
	}
	for number, row := range extraRows(rows, size/2, extra) {
		body := packet.ExtraBody(number, row.Text())
		packets = append(packets, packet.Seal(packet.Extra, set, body))
	}
	return packets
}

// describe answers the F packet's body of each file, and the rows of all
// slices of the set.
func describe(files []api.File, size int) ([]string, []field.Row) {
	bodies := make([]string, 0, len(files))
	rows := []field.Row{}
	for number, file := range files {
		slices := fileset.Cut(file.Data, size)
		bodies = append(bodies, packet.FileBody(number, file, slices))
		for _, slice := range slices {
			rows = append(rows, field.ReadRow(slice))
		}
	}
	return bodies, rows
}

// hashAll answers the hash of each text.
func hashAll(texts []string) []uint64 {
	hashes := make([]uint64, len(texts))
	for i, text := range texts {
		hashes[i] = packet.Hash(text)
	}
	return hashes
}

// extraRows answers the packets' slices: the set's rows stand at the numbers
// from 0 on, these at the numbers behind them.
func extraRows(rows []field.Row, width int, extra int) []field.Row {
	points := make([]uint16, len(rows))
	for i := range points {
		points[i] = uint16(i)
	}
	curve := field.Through(points)
	made := make([]field.Row, extra)
	for j := range made {
		made[j] = field.Mix(rows, curve.Weights(uint16(len(rows)+j)), width)
	}
	return made
}
