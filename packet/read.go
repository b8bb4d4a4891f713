package packet

import (
	"salvage/api"
	"salvage/fileset"
)

// SetInfo is what an M packet's body says.
type SetInfo struct {
	Size  int      // bytes of a slice
	Files []uint64 // the hash of each file's F packet's body
}

// FileInfo is what an F packet's body says.
type FileInfo struct {
	Number int
	Name   string
	Length int
	Hash   uint64
	Slices []uint64 // the hash of each slice
}

// ExtraInfo is what an R packet's body says.
type ExtraInfo struct {
	Number int
	Slice  string
}

// ReadMain reads an M packet's body, and tells whether it has just its form.
func ReadMain(body string) (SetInfo, bool) {
	rest := reader{rest: body}
	info := SetInfo{Size: int(rest.number(2))}
	count := int(rest.number(1))
	info.Files = rest.hashes()
	return info, !rest.short && fileset.IsSliceSize(info.Size) &&
		count >= 1 && count <= api.MaxFiles && count == len(info.Files)
}

// ReadFile reads an F packet's body, and tells whether it has just its form in
// a set with slices of the given size.
func ReadFile(body string, size int) (FileInfo, bool) {
	rest := reader{rest: body}
	info := FileInfo{Number: int(rest.number(1))}
	info.Name = rest.text(int(rest.number(1)))
	info.Length = int(rest.number(2))
	info.Hash = rest.number(8)
	info.Slices = rest.hashes()
	return info, !rest.short && len(info.Name) >= 1 && len(info.Name) <= api.MaxName &&
		info.Length <= api.MaxData && len(info.Slices) == fileset.SlicesOf(info.Length, size)
}

// ReadExtra reads an R packet's body, and tells whether it has a slice of the
// given size.
func ReadExtra(body string, size int) (ExtraInfo, bool) {
	rest := reader{rest: body}
	info := ExtraInfo{Number: int(rest.number(2)), Slice: rest.text(size)}
	return info, !rest.short && rest.rest == "" && info.Number < api.MaxExtra
}
