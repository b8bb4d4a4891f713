package packet

// Packet is what a packet's bytes say.
type Packet struct {
	Kind byte
	Set  uint64 // the set's hash
	Body string
}

// Open answers the packet that a text begins with, and how many bytes it takes
// there: none, if its letters, its length or its hash are not right. Which
// kinds there are is known where their bodies are read.
func Open(text string) (Packet, int) {
	rest := reader{rest: text}
	if rest.text(len(letters)) != letters {
		return Packet{}, 0
	}
	opened := Packet{Kind: byte(rest.number(1)), Set: rest.number(8)}
	opened.Body = rest.text(int(rest.number(2)))
	ahead := text[:len(text)-len(rest.rest)]
	hash := rest.number(8)
	if rest.short || hash != Hash(ahead) {
		return Packet{}, 0
	}
	return opened, len(ahead) + 8
}

// reader takes a text apart from its beginning on. Where the text ends too
// early it goes on with nothing and remembers it, so that a form has to be held
// against its text only once, at the end.
type reader struct {
	rest  string
	short bool
}

// text takes so many bytes.
func (r *reader) text(size int) string {
	if size > len(r.rest) {
		r.rest, r.short = "", true
		return ""
	}
	taken := r.rest[:size]
	r.rest = r.rest[size:]
	return taken
}

// number takes a number of so many bytes, the high ones first.
func (r *reader) number(size int) uint64 {
	number := uint64(0)
	for _, next := range []byte(r.text(size)) {
		number = number<<8 | uint64(next)
	}
	return number
}

// hashes takes all that is left, as hashes.
func (r *reader) hashes() []uint64 {
	taken := []uint64{}
	for len(r.rest) > 0 {
		taken = append(taken, r.number(8))
	}
	return taken
}
