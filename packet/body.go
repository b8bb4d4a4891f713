package packet

import "salvage/api"

// MainBody answers the M packet's body: the slice size and the hash of each
// file's body. Its own hash is the set's.
func MainBody(size int, files []uint64) string {
	body := appendNumber(nil, uint64(size), 2)
	body = appendNumber(body, uint64(len(files)), 1)
	for _, hash := range files {
		body = appendNumber(body, hash, 8)
	}
	return string(body)
}

// FileBody answers an F packet's body: of the file with this number in its set
// and with these slices.
func FileBody(number int, file api.File, slices []string) string {
	body := appendNumber(nil, uint64(number), 1)
	body = appendNumber(body, uint64(len(file.Name)), 1)
	body = append(body, file.Name...)
	body = appendNumber(body, uint64(len(file.Data)), 2)
	body = appendNumber(body, Hash(file.Data), 8)
	for _, slice := range slices {
		body = appendNumber(body, Hash(slice), 8)
	}
	return string(body)
}

// ExtraBody answers an R packet's body: the packet's slice with this number.
func ExtraBody(number int, slice string) string {
	return string(appendNumber(nil, uint64(number), 2)) + slice
}
