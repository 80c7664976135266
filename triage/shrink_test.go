package triage_test

import (
	"math"
	"reflect"
	"strings"
	"testing"
	"unsafe"

	"triage/triage"
)

// crash is a key as the document tells it.
type crash struct {
	kind  int
	sites []triage.Site
}

// crashOf answers the key of a run, and whether it faults.
func crashOf(t *testing.T, image string, fuel, depth int, input string) (crash, bool) {
	t.Helper()
	r := run(t, image, input, fuel)
	var sites []triage.Site
	for i := 0; i < depth && i < len(r.Sites); i++ {
		sites = append(sites, r.Sites[i])
	}
	return crash{r.Kind, sites}, r.End == 1
}

// shrunk asserts that an input's shrinking is allowed and that the answer is what P6 says, and answers it.
func shrunk(t *testing.T, image string, fuel, depth int, input string) string {
	t.Helper()
	got, code, place := triage.Shrink(image, fuel, depth, input)
	if code != triage.OK || place != 0 {
		t.Fatalf("P6: Shrink(%q, %d, %d, %q) answers %d, %d", image, fuel, depth, input, code, place)
	}
	return shrunkTo(t, image, fuel, depth, input, got)
}

// shrunkTo asserts that a text is one that P6 allows for an input, and answers it.
func shrunkTo(t *testing.T, image string, fuel, depth int, input, got string) string {
	t.Helper()
	want, _ := crashOf(t, image, fuel, depth, input)
	same := func(text string) bool {
		key, faults := crashOf(t, image, fuel, depth, text)
		return faults && reflect.DeepEqual(key, want)
	}
	if !same(got) {
		t.Fatalf("P6: image %q, fuel %d, depth %d: %q is shrunk to %q, which has another key", image, fuel, depth, input, got)
	}
	if !comesFrom(got, input) {
		t.Fatalf("P6: image %q, fuel %d, depth %d: %q is shrunk to %q, which does not come from it", image, fuel, depth, input, got)
	}
	for i := range len(got) {
		if same(got[:i] + got[i+1:]) {
			t.Fatalf("P6: image %q, fuel %d, depth %d: %q is shrunk to %q: byte %d is not needed", image, fuel, depth, input, got, i)
		}
		if got[i] != 0 && same(got[:i]+"\x00"+got[i+1:]) {
			t.Fatalf("P6: image %q, fuel %d, depth %d: %q is shrunk to %q: byte %d may be 0", image, fuel, depth, input, got, i)
		}
	}
	return got
}

// comesFrom tells whether bytes of a text, some turned into 0, make up the smaller one, in their order.
func comesFrom(smaller, text string) bool {
	for i := 0; i < len(text) && smaller != ""; i++ {
		if smaller[0] == 0 || smaller[0] == text[i] {
			smaller = smaller[1:]
		}
	}
	return smaller == ""
}

func TestShrink(t *testing.T) {
	third := image(in + in + in + jz(6) + trap + end)
	three := image(in + in + more + jz(6) + trap + end)
	search := image(in + jz(0) + trap)
	for _, c := range []struct {
		name, image string
		depth       int
		input, want string
	}{
		{"an empty input", image(trap), 6, "", ""},
		{"no byte is needed", image(trap), 6, xs(24), ""},
		{"only zeros", image(trap), 6, "\x00\x00", ""},
		{"nothing to leave out", medley, 6, "xyz", "xyz"},
		{"what comes behind", medley, 6, "xyz123456789", "xyz"},
		{"a byte that must be there, but not what it is", third, 6, "abc", "\x00\x00c"},
		{"bytes that are 0 stay", third, 6, "\x00\x00c", "\x00\x00c"},
		{"bytes that may be 0, and bytes behind", third, 6, "abccccc", "\x00\x00c"},
		{"bytes that must only be there", three, 6, "abcdefghi", "\x00\x00\x00"},
		{"the byte that is looked for", search, 6, "\x00\x00x\x00\x00", "x"},
		{"a byte above 127", search, 6, "\x00\xff", "\xff"},
		{"another kind is another key", medley, 6, "xx\x00x", "xx"},
		{"Under", medley, 6, "x\x00\x00x", "x"},
		{"by kind alone", fork, 0, "x", ""},
		{"by the last call", fork, 1, "x", ""},
		{"by both calls", fork, 2, "xx", "x"},
		{"by both calls, the other way", fork, 2, "\x00xx", ""},
		{"by as many calls", ladder, 6, xs(5) + "\x00x", xs(5)},
		{"by no calls", ladder, 0, xs(5), ""},
		{"by calls up to the depth", ladder, 6, xs(8), xs(6)},
		{"by too many calls", ladder, 6, xs(24), xs(9)},
		{"more can be left out once others ahead of it are", image(in + jz(8) + in + jz(7) + trap + end + trap), 6, "ab", ""},
		{"more can be left out once others behind it are", image(more + jz(9) + in + push('a') + eq + jz(10) + trap + end), 6, "ab", ""},
	} {
		if got := shrunk(t, c.image, 2000, c.depth, c.input); got != c.want {
			t.Errorf("P6, %s: Shrink(%q) = %q, want %q", c.name, c.input, got, c.want)
		}
	}
}

func TestShrinkErrors(t *testing.T) {
	type shrinkCase struct {
		name, image string
		fuel, depth int
		input       string
		code        triage.Errno
		place       int
	}
	cases := []shrinkCase{
		{"calm", medley, 2000, 6, "", triage.ErrCalm, 0},
		{"one step too little", ladder, 8, 0, xs(2), triage.ErrCalm, 0},
		{"just enough fuel", ladder, 9, 2, xs(2), triage.OK, 0},
		{"no fuel", image(trap), 0, 0, "", triage.ErrCalm, 0},
		{"it never ends", image(jmp(0)), 2000, 0, "x", triage.ErrCalm, 0},
		{"the longest input", image(trap), 2000, 6, xs(24), triage.OK, 0},
		{"too long", image(trap), 2000, 6, xs(25), triage.ErrLong, 0},
		{"too long ahead of calm", image(end), 2000, 6, xs(25), triage.ErrLong, 0},
		{"fuel below 0", image(trap), -1, 0, "", triage.ErrArg, 0},
		{"too much fuel", image(trap), 2001, 0, "", triage.ErrArg, 0},
		{"depth below 0", image(trap), 9, -1, "", triage.ErrArg, 0},
		{"too great a depth", image(trap), 9, 7, "", triage.ErrArg, 0},
		{"the greatest depth of all", image(trap), 9, math.MaxInt, "", triage.ErrArg, 0},
		{"fuel ahead of too long", image(trap), -1, 0, xs(25), triage.ErrArg, 0},
		{"depth ahead of too long", image(trap), 0, 7, xs(25), triage.ErrArg, 0},
	}
	for _, c := range brokenImages {
		cases = append(cases, shrinkCase{c.name, c.image, -1, -1, xs(25), c.code, c.place})
	}
	for _, c := range cases {
		got, code, place := triage.Shrink(c.image, c.fuel, c.depth, c.input)
		if code != c.code || place != c.place {
			t.Errorf("P6, %s: Shrink answers %d, %d, want %d, %d", c.name, code, place, c.code, c.place)
		}
		if code != triage.OK && got != "" {
			t.Errorf("P1, %s: beside the error %d Shrink answers %q", c.name, code, got)
		}
	}
}

func TestShrinkAnswersNewMemory(t *testing.T) {
	input := strings.Clone("xyz")
	for _, text := range []string{input, input + "\x00"} {
		got := shrunk(t, medley, 2000, 6, text)
		if got != "xyz" || unsafe.StringData(got) == unsafe.StringData(text) {
			t.Errorf("P1: Shrink(%q) = %q, in the memory of the input", text, got)
		}
	}
}
