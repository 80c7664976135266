package triage

import (
	"slices"
	"strings"
)

// Pack writes a bundle (P8).
func Pack(b Bundle) (string, Errno) {
	if !fits(b) {
		return "", ErrBundle
	}
	return write(b), OK
}

// Unpack reads a bundle (P8). That what was read is written as the same text shows that nothing in it is damaged, and that the bundle has no other text.
func Unpack(text string) (Bundle, Errno) {
	b := parse(text)
	packed, code := Pack(b)
	if code != OK || packed != text {
		return Bundle{}, ErrBundle
	}
	return b, OK
}

// Replay plays a bundle again (P9).
func Replay(text string) Errno {
	b, code := Unpack(text)
	if code != OK {
		return code
	}
	s, _, _ := setUp(b.Image, b.Fuel, b.Depth, []string{b.Input}) // no error: what is in a bundle was held against the same bounds
	want := keyOf(b.Kind, b.Sites, b.Depth)
	if !s.crashesSo(b.Input, want) || !slices.Equal(s.run(b.Input).Edges, b.Edges) {
		return ErrStale
	}
	return OK
}

// fits tells whether a bundle is within its bounds.
func fits(b Bundle) bool {
	_, code, _ := setUp(b.Image, b.Fuel, b.Depth, []string{b.Input})
	return code == OK && b.Kind >= kindUnder && b.Kind <= kindDeep && len(b.Sites) <= b.Depth && sitesFit(b.Sites) && edgesFit(b.Edges)
}

func sitesFit(sites []Site) bool {
	for _, site := range sites {
		if site.Func < 0 || site.Func >= maxFuncs || site.Place < 0 || site.Place >= maxImage {
			return false
		}
	}
	return true
}

func edgesFit(edges []int) bool {
	last := -1
	for _, edge := range edges {
		if edge <= last || edge >= 2*maxImage {
			return false
		}
		last = edge
	}
	return true
}

// write answers the text of a bundle that fits: its parts, then their seal.
func write(b Bundle) string {
	text := addNumbers(nil, b.Fuel, b.Depth, b.Kind)
	text = addText(text, b.Image)
	text = addText(text, b.Input)
	text = addNumbers(text, len(b.Sites))
	for _, site := range b.Sites {
		text = addNumbers(text, site.Func, site.Place)
	}
	text = addNumbers(text, len(b.Edges))
	text = addNumbers(text, b.Edges...)
	seal := sealOf(text)
	return string(append(text, byte(seal), byte(seal>>8), byte(seal>>16), byte(seal>>24)))
}

// addNumbers writes each number in two bytes, which is enough for all that may be in a bundle.
func addNumbers(text []byte, numbers ...int) []byte {
	for _, n := range numbers {
		text = append(text, byte(n), byte(n>>8))
	}
	return text
}

func addText(text []byte, part string) []byte {
	return append(addNumbers(text, len(part)), part...)
}

// sealPowers are the powers of the polynomial of CRC-32, the highest of which goes without saying; the lowest bit is that of the power 31.
const sealPowers = 0xedb88320

// sealOf answers the CRC-32 of a text. Bit 0 of each byte comes first, in the text as in the seal behind it: in the row of bits that the document goes by, two sealed texts of one length then differ by a multiple of that polynomial, and from the first bit to the last one of such a multiple there are more than 32. So no damage within 32 bits leaves a text sealed.
func sealOf(text []byte) uint32 {
	rest := ^uint32(0)
	for _, b := range text {
		rest ^= uint32(b)
		for range 8 {
			carry := rest & 1
			rest >>= 1
			if carry == 1 {
				rest ^= sealPowers
			}
		}
	}
	return ^rest
}

// parse answers the bundle that a text is of, if it is of one: to find that out, the caller writes it again.
func parse(text string) Bundle {
	r := reader{left: text}
	return Bundle{ // in the order in which write adds them
		Fuel:  r.number(),
		Depth: r.number(),
		Kind:  r.number(),
		Image: r.text(),
		Input: r.text(),
		Sites: r.sites(),
		Edges: r.edges(),
	}
}

// reader takes a text apart from its first byte on. Where too little is left, it reads what there is, and zeros.
type reader struct{ left string }

func (r *reader) take(length int) string {
	length = min(length, len(r.left))
	taken := r.left[:length]
	r.left = r.left[length:]
	return taken
}

func (r *reader) number() int {
	digits := r.take(2)
	if len(digits) < 2 {
		return 0
	}
	return int(digits[0]) | int(digits[1])<<8
}

func (r *reader) text() string { return strings.Clone(r.take(r.number())) }

// count answers how many elements come, but no more than there are bytes left, so that a wrong number makes no long list of nothing.
func (r *reader) count() int {
	n := r.number()
	return min(n, len(r.left))
}

func (r *reader) sites() []Site {
	var sites []Site
	for range r.count() {
		sites = append(sites, Site{Func: r.number(), Place: r.number()})
	}
	return sites
}

func (r *reader) edges() []int {
	var edges []int
	for range r.count() {
		edges = append(edges, r.number())
	}
	return edges
}
