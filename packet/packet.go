// Package packet: how packets and their bodies stand as bytes.
package packet

import "salvage/api"

// The kinds of packets.
const (
	Main  byte = 'M' // says which files a set has
	File  byte = 'F' // describes one of them
	Extra byte = 'R' // holds a slice out of which a lost one can be made
)

const letters = "SAL"

// Hash answers the hash of bytes.
func Hash(text string) uint64 {
	hash := api.Basis
	for i := range len(text) {
		hash = (hash ^ uint64(text[i])) * api.Prime
	}
	return hash
}

// Seal makes the packet of a body, of the set with the given hash.
func Seal(kind byte, set uint64, body string) string {
	text := append([]byte(letters), kind)
	text = appendNumber(text, set, 8)
	text = appendNumber(text, uint64(len(body)), 2)
	text = append(text, body...)
	text = appendNumber(text, Hash(string(text)), 8)
	return string(text)
}

// appendNumber adds a number as so many bytes, the high ones first.
func appendNumber(text []byte, number uint64, size int) []byte {
	for place := size - 1; place >= 0; place-- {
		text = append(text, byte(number>>(8*place)))
	}
	return text
}
