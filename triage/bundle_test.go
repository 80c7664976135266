package triage_test

import (
	"hash/crc32"
	"math"
	"reflect"
	"slices"
	"strings"
	"testing"
	"unsafe"

	"triage/triage"
)

// rung is the crash of ladder below one call.
func rung() triage.Bundle {
	return triage.Bundle{Image: ladder, Fuel: 99, Depth: 3, Input: "x", Kind: trapped, Sites: rungs(1), Edges: []int{6, 7, 11}}
}

// greatest is a bundle with all that may be in one.
func greatest() triage.Bundle {
	b := triage.Bundle{Image: image(padded(60), padded(60), padded(60), padded(15)), Fuel: 2000, Depth: 6, Input: strings.Repeat("\xff", 24), Kind: deep, Sites: slices.Repeat([]triage.Site{site(5, 199)}, 6)}
	for edge := range 400 {
		b.Edges = append(b.Edges, edge)
	}
	return b
}

type bundleCase struct {
	name   string
	bundle triage.Bundle
}

// bundleCases are what change makes of rung.
func bundleCases(changes []bundleChange) []bundleCase {
	var cases []bundleCase
	for _, c := range changes {
		b := rung()
		c.change(&b)
		cases = append(cases, bundleCase{c.name, b})
	}
	return cases
}

type bundleChange struct {
	name   string
	change func(b *triage.Bundle)
}

// goodBundles are different from one another.
func goodBundles() []bundleCase {
	return append(bundleCases([]bundleChange{
		{"as it is", func(b *triage.Bundle) {}},
		{"no fuel", func(b *triage.Bundle) { b.Fuel = 0 }},
		{"fuel of one byte", func(b *triage.Bundle) { b.Fuel = 255 }},
		{"fuel of more than one byte", func(b *triage.Bundle) { b.Fuel = 256 }},
		{"the most fuel", func(b *triage.Bundle) { b.Fuel = 2000 }},
		{"as deep as there are sites", func(b *triage.Bundle) { b.Depth = 1 }},
		{"the greatest depth", func(b *triage.Bundle) { b.Depth = 6 }},
		{"no depth", func(b *triage.Bundle) { b.Depth, b.Sites = 0, nil }},
		{"no input", func(b *triage.Bundle) { b.Input = "" }},
		{"the longest input", func(b *triage.Bundle) { b.Input = xs(24) }},
		{"an input of a 0", func(b *triage.Bundle) { b.Input = "\x00" }},
		{"an input of zeros", func(b *triage.Bundle) { b.Input = "\x00\x00" }},
		{"the least kind", func(b *triage.Bundle) { b.Kind = under }},
		{"the greatest kind", func(b *triage.Bundle) { b.Kind = deep }},
		{"no sites", func(b *triage.Bundle) { b.Sites = nil }},
		{"a site of zeros", func(b *triage.Bundle) { b.Sites = []triage.Site{site(0, 0)} }},
		{"sites of zeros, as deep as may be", func(b *triage.Bundle) { b.Sites = make([]triage.Site, 3) }},
		{"a function that the image has not", func(b *triage.Bundle) { b.Sites = []triage.Site{site(5, 5)} }},
		{"a place that the image has not", func(b *triage.Bundle) { b.Sites = []triage.Site{site(0, 199)} }},
		{"the same site twice", func(b *triage.Bundle) { b.Sites = rungs(2) }},
		{"sites that fall", func(b *triage.Bundle) { b.Sites = []triage.Site{site(1, 9), site(0, 4)} }},
		{"no edges", func(b *triage.Bundle) { b.Edges = nil }},
		{"the least edge", func(b *triage.Bundle) { b.Edges = []int{0} }},
		{"the greatest edge", func(b *triage.Bundle) { b.Edges = []int{399} }},
		{"both", func(b *triage.Bundle) { b.Edges = []int{0, 399} }},
		{"another image", func(b *triage.Bundle) { b.Image = medley }},
	}),
		bundleCase{"the least", triage.Bundle{Image: image(end), Kind: under}},
		bundleCase{"the greatest", greatest()},
	)
}

func wrongBundles() []bundleCase {
	cases := bundleCases([]bundleChange{
		{"fuel below 0", func(b *triage.Bundle) { b.Fuel = -1 }},
		{"too much fuel", func(b *triage.Bundle) { b.Fuel = 2001 }},
		{"fuel of more than two bytes", func(b *triage.Bundle) { b.Fuel = 99 + 1<<16 }},
		{"the least fuel of all", func(b *triage.Bundle) { b.Fuel = math.MinInt }},
		{"the most fuel of all", func(b *triage.Bundle) { b.Fuel = math.MaxInt }},
		{"depth below 0", func(b *triage.Bundle) { b.Depth, b.Sites = -1, nil }},
		{"depth below 0, with sites", func(b *triage.Bundle) { b.Depth = -1 }},
		{"too great a depth", func(b *triage.Bundle) { b.Depth = 7 }},
		{"the least depth of all", func(b *triage.Bundle) { b.Depth, b.Sites = math.MinInt, nil }},
		{"the greatest depth of all", func(b *triage.Bundle) { b.Depth = math.MaxInt }},
		{"an input too long", func(b *triage.Bundle) { b.Input = xs(25) }},
		{"an input far too long", func(b *triage.Bundle) { b.Input = xs(1 << 20) }},
		{"no kind", func(b *triage.Bundle) { b.Kind = 0 }},
		{"a kind below 0", func(b *triage.Bundle) { b.Kind = -1 }},
		{"too great a kind", func(b *triage.Bundle) { b.Kind = 7 }},
		{"a kind of more than two bytes", func(b *triage.Bundle) { b.Kind = trapped + 1<<16 }},
		{"the least kind of all", func(b *triage.Bundle) { b.Kind = math.MinInt }},
		{"the greatest kind of all", func(b *triage.Bundle) { b.Kind = math.MaxInt }},
		{"a site and no depth", func(b *triage.Bundle) { b.Depth = 0 }},
		{"more sites than depth", func(b *triage.Bundle) { b.Sites = rungs(4) }},
		{"more sites than the greatest depth", func(b *triage.Bundle) { b.Depth, b.Sites = 6, rungs(7) }},
		{"far too many sites", func(b *triage.Bundle) { b.Sites = rungs(1<<16 + 1) }},
		{"a function below 0", func(b *triage.Bundle) { b.Sites[0].Func = -1 }},
		{"too great a function", func(b *triage.Bundle) { b.Sites[0].Func = 6 }},
		{"the least function of all", func(b *triage.Bundle) { b.Sites[0].Func = math.MinInt }},
		{"the greatest function of all", func(b *triage.Bundle) { b.Sites[0].Func = math.MaxInt }},
		{"a place below 0", func(b *triage.Bundle) { b.Sites[0].Place = -1 }},
		{"too great a place", func(b *triage.Bundle) { b.Sites[0].Place = 200 }},
		{"the least place of all", func(b *triage.Bundle) { b.Sites[0].Place = math.MinInt }},
		{"the greatest place of all", func(b *triage.Bundle) { b.Sites[0].Place = math.MaxInt }},
		{"the last site is wrong", func(b *triage.Bundle) { b.Sites = append(rungs(2), site(6, 0)) }},
		{"an edge below 0", func(b *triage.Bundle) { b.Edges[0] = -1 }},
		{"only an edge below 0", func(b *triage.Bundle) { b.Edges = []int{-1} }},
		{"too great an edge", func(b *triage.Bundle) { b.Edges[2] = 400 }},
		{"the least edge of all", func(b *triage.Bundle) { b.Edges[0] = math.MinInt }},
		{"the greatest edge of all", func(b *triage.Bundle) { b.Edges[2] = math.MaxInt }},
		{"the same edge twice", func(b *triage.Bundle) { b.Edges[2] = b.Edges[1] }},
		{"edges that fall", func(b *triage.Bundle) { b.Edges[2] = 0 }},
		{"the edge 0 twice", func(b *triage.Bundle) { b.Edges = []int{0, 0} }},
		{"one more than all edges", func(b *triage.Bundle) { b.Edges = append(greatest().Edges, 400) }},
		{"far too many edges", func(b *triage.Bundle) { b.Edges = make([]int, 1<<20) }},
	})
	for _, c := range brokenImages {
		b := rung()
		b.Image = c.image
		cases = append(cases, bundleCase{"image: " + c.name, b})
	}
	return append(cases, bundleCase{"zero", triage.Bundle{}})
}

// pack asserts that a bundle may be packed, and answers its text.
func pack(t *testing.T, b triage.Bundle) string {
	t.Helper()
	text, code := triage.Pack(b)
	if code != triage.OK || text == "" {
		t.Fatalf("P8: Pack(%+v) = %q, %d", b, text, code)
	}
	return text
}

// unpack asserts that a text is a bundle, and answers it with empty lists as nil.
func unpack(t *testing.T, text string) triage.Bundle {
	t.Helper()
	b, code := triage.Unpack(text)
	if code != triage.OK {
		t.Fatalf("P8: Unpack(%q) answers %d", text, code)
	}
	if len(b.Sites) == 0 {
		b.Sites = nil
	}
	if len(b.Edges) == 0 {
		b.Edges = nil
	}
	return b
}

// noBundle asserts that a text is refused.
func noBundle(t *testing.T, name, text string) {
	t.Helper()
	b, code := triage.Unpack(text)
	if code != triage.ErrBundle {
		t.Fatalf("P8, %s: Unpack(%.99q) answers %d, want ErrBundle", name, text, code)
	}
	if !reflect.DeepEqual(b, triage.Bundle{}) {
		t.Fatalf("P1, %s: beside the error Unpack(%.99q) answers %+v", name, text, b)
	}
}

func TestPackAndUnpack(t *testing.T) {
	names := map[string]string{}
	for _, c := range goodBundles() {
		text := pack(t, c.bundle)
		if got := unpack(t, text); !reflect.DeepEqual(got, c.bundle) {
			t.Errorf("P8, %s: Unpack of what Pack answers = %+v, want %+v", c.name, got, c.bundle)
		}
		if other, taken := names[text]; taken {
			t.Errorf("P8: %s and %s have one text", other, c.name)
		}
		names[text] = c.name
	}
	for _, c := range goodImages {
		b := rung()
		b.Image = c.image
		if got := unpack(t, pack(t, b)); !reflect.DeepEqual(got, b) {
			t.Errorf("P8, image: %s: Unpack of what Pack answers = %+v, want %+v", c.name, got, b)
		}
	}
}

func TestPackTakesEmptyListsForNone(t *testing.T) {
	b := triage.Bundle{Image: image(trap), Fuel: 1, Kind: trapped}
	none := pack(t, b)
	b.Sites, b.Edges = []triage.Site{}, []int{}
	if empty := pack(t, b); empty != none {
		t.Errorf("P8: Pack = %q of empty lists, %q of none", empty, none)
	}
}

func TestPackOfWrongBundles(t *testing.T) {
	for _, c := range wrongBundles() {
		text, code := triage.Pack(c.bundle)
		if code != triage.ErrBundle {
			t.Errorf("P8, %s: Pack answers %d, want ErrBundle", c.name, code)
		}
		if text != "" {
			t.Errorf("P1, %s: beside the error Pack answers %q", c.name, text)
		}
	}
}

func TestUnpackOfOtherTexts(t *testing.T) {
	good := pack(t, rung())
	for i := range good {
		noBundle(t, "only the beginning", good[:i])
		noBundle(t, "a byte less", good[:i]+good[i+1:])
		noBundle(t, "a byte twice", good[:i]+good[i:i+1]+good[i:])
		noBundle(t, "a 0 more", good[:i]+"\x00"+good[i:])
		if i > 0 {
			noBundle(t, "only the end", good[i:])
		}
	}
	for _, more := range []string{"\x00", "\x00\x00\x00\x00", "x", good} {
		noBundle(t, "more behind it", good+more)
	}
	for length := range 300 {
		noBundle(t, "zeros", strings.Repeat("\x00", length))
		noBundle(t, "ones", strings.Repeat("\x01", length))
		noBundle(t, "bits", strings.Repeat("\xff", length))
	}
	noBundle(t, "far too long", strings.Repeat("\xff", 5000000))
	noBundle(t, "far too long, by zeros", good+strings.Repeat("\x00", 5000000))
	d := dice(7)
	for range 20000 {
		noBundle(t, "any", d.text(300))
	}
}

// sealed puts the seal of bundles behind a text.
func sealed(body string) string {
	seal := crc32.ChecksumIEEE([]byte(body))
	return body + string([]byte{byte(seal), byte(seal >> 8), byte(seal >> 16), byte(seal >> 24)})
}

func unsealed(text string) string { return text[:len(text)-4] }

// A seal can be put on anything. What a bundle is must not hang on it alone.
func TestUnpackOfSealedTexts(t *testing.T) {
	good := pack(t, rung())
	body := unsealed(good)
	if sealed(body) != good {
		t.Fatalf("%q has another seal than %q", good, sealed(body))
	}
	look := func(body string) {
		t.Helper()
		text := sealed(body)
		if _, code := triage.Unpack(text); code != triage.OK {
			noBundle(t, "sealed", text)
		} else if again := pack(t, unpack(t, text)); again != text {
			t.Fatalf("P8: Unpack(%q) is OK, but Pack answers %q for it", text, again)
		}
	}
	for i := range body {
		for n := range 256 {
			look(body[:i] + string([]byte{byte(n)}) + body[i+1:])
		}
		noBundle(t, "sealed, only the beginning", sealed(body[:i]))
		noBundle(t, "sealed, only the end", sealed(body[i+1:]))
	}
	for n := range 256 {
		noBundle(t, "sealed, a byte more", sealed(body+string([]byte{byte(n)})))
	}
	noBundle(t, "sealed twice", sealed(good))
	noBundle(t, "sealed, zeros behind it", sealed(body+strings.Repeat("\x00", 100000)))
	d := dice(8)
	for range 20000 {
		look(d.text(60))
	}
}

// flipped turns those bits of a text that mask has, from bit at on.
func flipped(text string, at int, mask uint32) string {
	bytes := []byte(text)
	for k := range 32 {
		if bit := at + k; mask>>k&1 == 1 && bit < 8*len(bytes) {
			bytes[bit/8] ^= 1 << (bit % 8)
		}
	}
	return string(bytes)
}

func TestUnpackOfDamagedTexts(t *testing.T) {
	d := dice(9)
	for _, b := range []triage.Bundle{rung(), {Image: image(end), Kind: under}} {
		text := pack(t, b)
		for at := range 8 * len(text) {
			for mask := range uint32(1 << 8) {
				noBundle(t, "a few bits", flipped(text, at, 2*mask+1))
			}
			for k := range 32 {
				noBundle(t, "two bits", flipped(text, at, 1|1<<k))
				noBundle(t, "all bits of a row", flipped(text, at, math.MaxUint32>>k))
			}
			for range 50 {
				noBundle(t, "any bits", flipped(text, at, uint32(d.below(1<<31))<<1|1))
			}
		}
	}
	text := pack(t, greatest())
	for at := range 8 * len(text) {
		noBundle(t, "a bit", flipped(text, at, 1))
		noBundle(t, "32 bits", flipped(text, at, math.MaxUint32))
		noBundle(t, "any bits", flipped(text, at, uint32(d.below(1<<31))<<1|1))
	}
}

// There are too many rows of 32 bits to try. But a seal goes by exclusive or: what some flipped bits change in whether it fits is what each of them changes alone, taken together. So no choice of some bits of a row goes unseen, if of what they change none is made up by others.
func TestSealShowsAllDamage(t *testing.T) {
	for _, c := range goodBundles() {
		text := pack(t, c.bundle)
		if sealed(unsealed(text)) != text {
			t.Fatalf("P8, %s: %q has another seal than %q", c.name, text, sealed(unsealed(text)))
		}
		changes := make([]uint32, 8*len(text))
		for bit := range changes {
			changes[bit] = misfit(flipped(text, bit, 1))
		}
		for at := range len(changes) {
			if row := changes[at:min(at+32, len(changes))]; !independent(row) {
				t.Fatalf("P8, %s: some damage of the 32 bits from %d on is not seen", c.name, at)
			}
		}
	}
}

// misfit answers the bits in which the seal of a text is not what it should be.
func misfit(text string) uint32 {
	right := sealed(unsealed(text))
	var bits uint32
	for i := range 4 {
		at := len(text) - 4 + i
		bits |= uint32(text[at]^right[at]) << (8 * i)
	}
	return bits
}

// independent tells whether no exclusive or of some of the numbers is 0.
func independent(numbers []uint32) bool {
	var leading [32]uint32
	for _, n := range numbers {
		for bit := 31; bit >= 0 && n != 0; bit-- {
			if n>>bit&1 == 0 {
				continue
			}
			if leading[bit] == 0 {
				leading[bit] = n
				break
			}
			n ^= leading[bit]
		}
		if n == 0 {
			return false
		}
	}
	return true
}

func TestBundlesShareNothing(t *testing.T) {
	b := rung()
	text := pack(t, b)
	if !reflect.DeepEqual(b, rung()) {
		t.Errorf("P1: Pack turned its bundle into %+v", b)
	}
	clear(b.Sites)
	clear(b.Edges)
	got := unpack(t, text)
	if !reflect.DeepEqual(got, rung()) {
		t.Errorf("P1: Unpack = %+v after the packed bundle was changed", got)
	}
	for _, part := range []string{got.Image, got.Input} {
		if within(part, text) {
			t.Errorf("P1: Unpack answers %q in the memory of its text", part)
		}
	}
	clear(got.Sites)
	clear(got.Edges)
	if again := unpack(t, text); !reflect.DeepEqual(again, rung()) {
		t.Errorf("P1: Unpack = %+v after an earlier answer was changed", again)
	}
}

// within tells whether a part lies in the memory of a text.
func within(part, text string) bool {
	first, low := uintptr(unsafe.Pointer(unsafe.StringData(part))), uintptr(unsafe.Pointer(unsafe.StringData(text)))
	return first >= low && first < low+uintptr(len(text))
}

func TestReplay(t *testing.T) {
	twice := triage.Bundle{Image: fork, Fuel: 99, Depth: 2, Input: "x", Kind: trapped, Sites: []triage.Site{site(1, 13), site(0, 7)}, Edges: []int{10, 15, 27}}
	atZero := triage.Bundle{Image: image(trap), Fuel: 1, Depth: 6, Kind: trapped}
	change := func(b triage.Bundle, change func(b *triage.Bundle)) triage.Bundle {
		b.Sites, b.Edges = slices.Clone(b.Sites), slices.Clone(b.Edges)
		change(&b)
		return b
	}
	for _, c := range []struct {
		name   string
		bundle triage.Bundle
		code   triage.Errno
	}{
		{"a crash", rung(), triage.OK},
		{"a crash with an input to be shrunk", change(rung(), func(b *triage.Bundle) { b.Input = "y\x00zzz" }), triage.OK},
		{"just enough fuel", change(rung(), func(b *triage.Bundle) { b.Fuel = 6 }), triage.OK},
		{"one step too little", change(rung(), func(b *triage.Bundle) { b.Fuel = 5 }), triage.ErrStale},
		{"no fuel", change(rung(), func(b *triage.Bundle) { b.Fuel = 0 }), triage.ErrStale},
		{"another input that crashes", change(rung(), func(b *triage.Bundle) { b.Input = "xx" }), triage.ErrStale},
		{"as deep as there are sites", change(rung(), func(b *triage.Bundle) { b.Depth = 1 }), triage.OK},
		{"no depth", change(rung(), func(b *triage.Bundle) { b.Depth, b.Sites = 0, nil }), triage.OK},
		{"no sites", change(rung(), func(b *triage.Bundle) { b.Sites = nil }), triage.ErrStale},
		{"a site more", change(rung(), func(b *triage.Bundle) { b.Sites = rungs(2) }), triage.ErrStale},
		{"another function", change(rung(), func(b *triage.Bundle) { b.Sites[0].Func = 1 }), triage.ErrStale},
		{"another place", change(rung(), func(b *triage.Bundle) { b.Sites[0].Place = 6 }), triage.ErrStale},
		{"another kind", change(rung(), func(b *triage.Bundle) { b.Kind = deep }), triage.ErrStale},
		{"no edges", change(rung(), func(b *triage.Bundle) { b.Edges = nil }), triage.ErrStale},
		{"an edge less", change(rung(), func(b *triage.Bundle) { b.Edges = []int{6, 11} }), triage.ErrStale},
		{"an edge more", change(rung(), func(b *triage.Bundle) { b.Edges = []int{6, 7, 10, 11} }), triage.ErrStale},
		{"another edge", change(rung(), func(b *triage.Bundle) { b.Edges = []int{6, 7, 10} }), triage.ErrStale},
		{"another image", change(rung(), func(b *triage.Bundle) { b.Image = medley }), triage.ErrStale},
		{"two calls", twice, triage.OK},
		{"the last of two calls", change(twice, func(b *triage.Bundle) { b.Depth, b.Sites = 1, b.Sites[:1] }), triage.OK},
		{"the last of two calls, though both count", change(twice, func(b *triage.Bundle) { b.Sites = b.Sites[:1] }), triage.ErrStale},
		{"the first call first", change(twice, func(b *triage.Bundle) { slices.Reverse(b.Sites) }), triage.ErrStale},
		{"the other way to the same calls", change(twice, func(b *triage.Bundle) { b.Input = "" }), triage.ErrStale},
		{"no calls", atZero, triage.OK},
		{"a site of zeros where there is none", change(atZero, func(b *triage.Bundle) { b.Sites = make([]triage.Site, 1) }), triage.ErrStale},
		{"the edge 0 where there is none", change(atZero, func(b *triage.Bundle) { b.Edges = []int{0} }), triage.ErrStale},
		{"a run that ends", triage.Bundle{Image: image(end), Fuel: 9, Kind: under}, triage.ErrStale},
		{"a run without end", triage.Bundle{Image: image(jmp(0)), Fuel: 2000, Kind: under, Edges: []int{5}}, triage.ErrStale},
		{"more calls than the greatest depth", triage.Bundle{Image: ladder, Fuel: 2000, Depth: 6, Input: xs(9), Kind: deep, Sites: rungs(6), Edges: []int{6, 11}}, triage.OK},
		{"the greatest", greatest(), triage.ErrStale},
	} {
		if code := triage.Replay(pack(t, c.bundle)); code != c.code {
			t.Errorf("P9, %s: Replay answers %d, want %d", c.name, code, c.code)
		}
	}
}

func TestReplayOfOtherTexts(t *testing.T) {
	good := pack(t, rung())
	for _, text := range []string{"", "x", ladder, good[1:], good + "\x00", flipped(good, 3, 1), strings.Repeat("\xff", 1000)} {
		if code := triage.Replay(text); code != triage.ErrBundle {
			t.Errorf("P9: Replay(%q) answers %d, want ErrBundle", text, code)
		}
	}
	for at := range 8 * len(good) {
		if code := triage.Replay(flipped(good, at, 1)); code != triage.ErrBundle {
			t.Errorf("P9: Replay answers %d with bit %d flipped, want ErrBundle", code, at)
		}
	}
}
