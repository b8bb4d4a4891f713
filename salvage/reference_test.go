package salvage_test

import (
	"encoding/binary"
	"hash/fnv"
	"math/rand"
	"strings"
	"sync"

	"salvage/api"
)

// What DOC.md says, written a second time and by other ways, to hold the
// program's answers against.

// refHash is the library's hash of the same numbers.
func refHash(text string) uint64 {
	hash := fnv.New64a()
	hash.Write([]byte(text))
	return hash.Sum64()
}

// refTimes multiplies by adding up x^k times a, for each bit k of b.
func refTimes(a uint16, b uint16) uint16 {
	long := uint64(0)
	for k := range 16 {
		long ^= uint64(a) * (uint64(b) & (1 << k))
	}
	for k := 30; k >= 16; k-- {
		if long&(1<<k) != 0 {
			long ^= 0x1100b << (k - 16)
		}
	}
	return uint16(long)
}

// refInverses answers each number's inverse, by the powers of x: they are all
// the numbers but 0, and power k is the inverse of power 65535 - k.
var refInverses = sync.OnceValue(func() []uint16 {
	powers := []uint16{1}
	for k := range 65535 {
		powers = append(powers, refTimes(powers[k], 2))
	}
	inverses := make([]uint16, 1<<16)
	for k, power := range powers {
		inverses[power] = powers[65535-k]
	}
	return inverses
})

// refOver divides.
func refOver(a uint16, b uint16) uint16 {
	return refTimes(a, refInverses()[b])
}

// refValue answers, at a number, the value of the polynomial with the given
// values at the given numbers, by Neville's scheme.
func refValue(numbers []uint16, values []uint16, at uint16) uint16 {
	row := append([]uint16{}, values...)
	for step := 1; step < len(row); step++ {
		for i := 0; i+step < len(row); i++ {
			low, high := numbers[i], numbers[i+step]
			sum := refTimes(at^high, row[i]) ^ refTimes(at^low, row[i+1])
			row[i] = refOver(sum, low^high)
		}
	}
	return row[0]
}

// refSlice answers the slice at a number, out of those at others.
func refSlice(numbers []uint16, slices []string, at uint16) string {
	made := []byte{}
	for place := 0; place < len(slices[0]); place += 2 {
		values := []uint16{}
		for _, slice := range slices {
			values = append(values, binary.BigEndian.Uint16([]byte(slice[place:])))
		}
		made = binary.BigEndian.AppendUint16(made, refValue(numbers, values, at))
	}
	return string(made)
}

// refPacket writes a packet.
func refPacket(kind string, set uint64, body string) string {
	text := []byte("SAL" + kind)
	text = binary.BigEndian.AppendUint64(text, set)
	text = binary.BigEndian.AppendUint16(text, uint16(len(body)))
	text = append(text, body...)
	return string(binary.BigEndian.AppendUint64(text, refHash(string(text))))
}

// refSlices answers the slices of one file.
func refSlices(data string, size int) []string {
	made := []string{}
	for len(data) > size {
		made = append(made, data[:size])
		data = data[size:]
	}
	if len(data) > 0 {
		made = append(made, data+strings.Repeat("\x00", size-len(data)))
	}
	return made
}

// refPackets answers the packets of files that are a set.
func refPackets(files []api.File, size int, extra int) []string {
	main, all, bodies := []byte{0, byte(size), byte(len(files))}, []string{}, []string{}
	for i, file := range files {
		body := append([]byte{byte(i), byte(len(file.Name))}, file.Name...)
		body = binary.BigEndian.AppendUint16(body, uint16(len(file.Data)))
		body = binary.BigEndian.AppendUint64(body, refHash(file.Data))
		for _, slice := range refSlices(file.Data, size) {
			body = binary.BigEndian.AppendUint64(body, refHash(slice))
			all = append(all, slice)
		}
		bodies = append(bodies, string(body))
		main = binary.BigEndian.AppendUint64(main, refHash(string(body)))
	}
	set := refHash(string(main))
	packets := []string{refPacket("M", set, string(main))}
	for _, body := range bodies {
		packets = append(packets, refPacket("F", set, body))
	}
	numbers := []uint16{}
	for i := range all {
		numbers = append(numbers, uint16(i))
	}
	for j := range extra {
		body := string([]byte{0, byte(j)}) + refSlice(numbers, all, uint16(len(all)+j))
		packets = append(packets, refPacket("R", set, body))
	}
	return packets
}

// randomText answers so many bytes.
func randomText(random *rand.Rand, length int) string {
	text := make([]byte, length)
	for i := range text {
		text[i] = byte(random.Intn(256))
	}
	return string(text)
}

// randomSet answers files that are a set, some without bytes.
func randomSet(random *rand.Rand, most int) []api.File {
	files := []api.File{}
	for i := range 1 + random.Intn(api.MaxFiles) {
		name := string(rune('a'+i)) + randomText(random, random.Intn(api.MaxName))
		files = append(files, api.File{Name: name, Data: randomText(random, random.Intn(most+1))})
	}
	return files
}
