// Package volume: the packets that lie in volumes, and the set that they tell
// of.
package volume

import "salvage/packet"

// kinds: for each kind of packets, what reads one. M stands first, as what the
// others are worth hangs on it.
var kinds = [...]struct {
	letter byte
	read   func(*Set, packet.Packet)
}{
	{packet.Main, (*Set).readMain},
	{packet.File, (*Set).readFile},
	{packet.Extra, (*Set).readExtra},
}

// Read answers what the packets in volumes say of their set, and whether they
// say which set it is.
func Read(volumes []string) (Set, bool) {
	found := pile{}
	for _, volume := range volumes {
		walk(volume, found.add)
	}
	set := Set{
		files:  map[int]packet.FileInfo{},
		extras: map[int]packet.ExtraInfo{},
	}
	for _, kind := range kinds {
		for _, next := range found[kind.letter] {
			kind.read(&set, next)
		}
	}
	return set, set.known
}

// pile keeps packets by their kind, those of one kind as they were found.
type pile map[byte][]packet.Packet

func (p pile) add(found packet.Packet) {
	p[found.Kind] = append(p[found.Kind], found)
}

// walk hands over the right packets in a volume, in their order.
func walk(volume string, take func(packet.Packet)) {
	for at := 0; at < len(volume); {
		found, length := packet.Open(volume[at:])
		if length == 0 || !isKind(found.Kind) {
			at++
			continue
		}
		take(found)
		// What lies inside a packet is its own, even if it looks like another.
		at += length
	}
}

// isKind tells whether there are packets of that kind.
func isKind(letter byte) bool {
	for _, kind := range kinds {
		if kind.letter == letter {
			return true
		}
	}
	return false
}
