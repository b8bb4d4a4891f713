// Package fileset: what a set of files is, and how it is cut into slices.
package fileset

import (
	"strings"

	"salvage/api"
)

// IsSliceSize tells whether slices may have so many bytes.
func IsSliceSize(size int) bool {
	return size >= 2 && size <= api.MaxSlice && size%2 == 0
}

// IsSet tells whether files make a set.
func IsSet(files []api.File) bool {
	if len(files) < 1 || len(files) > api.MaxFiles {
		return false
	}
	for i, file := range files {
		if !fits(file) || hasName(files[:i], file.Name) {
			return false
		}
	}
	return true
}

// fits tells whether a file keeps to the bounds of a set's files.
func fits(file api.File) bool {
	return len(file.Name) >= 1 && len(file.Name) <= api.MaxName && len(file.Data) <= api.MaxData
}

// hasName tells whether one of the files has the name.
func hasName(files []api.File, name string) bool {
	for _, file := range files {
		if file.Name == name {
			return true
		}
	}
	return false
}

// CountSlices answers how many slices files of a set are cut into.
func CountSlices(files []api.File, size int) int {
	count := 0
	for _, file := range files {
		count += SlicesOf(len(file.Data), size)
	}
	return count
}

// SlicesOf answers how many slices so many bytes make.
func SlicesOf(length int, size int) int {
	return (length + size - 1) / size
}

// Cut answers a file's slices.
func Cut(data string, size int) []string {
	count := SlicesOf(len(data), size)
	filled := data + strings.Repeat("\x00", count*size-len(data))
	slices := make([]string, count)
	for i := range slices {
		slices[i] = filled[i*size : (i+1)*size]
	}
	return slices
}

// Join answers the file of the given length that is cut into these slices. It
// shares no memory with them.
func Join(slices []string, length int) string {
	return strings.Clone(strings.Join(slices, "")[:length])
}
