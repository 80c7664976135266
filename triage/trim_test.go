package triage_test

import (
	"slices"
	"testing"

	"triage/triage"
)

// steps asks of five bytes, one behind the other, whether they are 0, and goes on all the same: each run to its end has five edges, one for each byte, of ten in all.
var steps = image(in + jz(3) + in + jz(6) + in + jz(9) + in + jz(12) + in + jz(15) + end)

func TestTrim(t *testing.T) {
	for _, c := range []struct {
		name, image string
		fuel        int
		inputs      []string
		want        []int
	}{
		{"no inputs", steps, 2000, nil, nil},
		{"runs without edges", image(in + end), 2000, []string{"", "x"}, nil},
		{"runs without edges among others", image(in + jz(4) + trap + end), 2, []string{"x", "", "y"}, []int{0, 1}},
		{"no fuel", steps, 0, []string{"", "x"}, nil},
		{"one", steps, 2000, []string{""}, []int{0}},
		{"runs with the same edges", steps, 2000, slices.Repeat([]string{"abc"}, 12), []int{0}},
		{"the shortest", steps, 2000, []string{"\x00\x00", "\x00", "", "\x00\x00\x00"}, []int{2}},
		{"of the shortest the first", steps, 2000, []string{"\x00\x00", "ab", "\x00", "cd", "x"}, []int{1, 2}},
		{"the most edges ahead of the shortest", steps, 2000, []string{"", "x", "xxxxx", "xx"}, []int{0, 2}},
		{"rising, not in the order of picking", steps, 2000, []string{"xxxxx", "x", ""}, []int{0, 2}},
		{"the most, though two others have all", steps, 2000, []string{"", "xxx", "\x00\x00\x00xx", "\x00xxxx"}, []int{0, 1, 3}},
		{"only edges that no picked one has count", ladder, 2000, []string{"xx", "x", "", "xxx"}, []int{1}},
		{"fuel for the first edge", steps, 2, []string{"", "\x00x", "x"}, []int{0, 2}},
		{"fuel for the second edge", steps, 4, []string{"", "\x00x", "x"}, []int{0, 1, 2}},
		{"runs that fault", fork, 2000, []string{"xx", "\x00", "x"}, []int{1, 2}},
	} {
		got, code, place := triage.Trim(c.image, c.fuel, c.inputs)
		if code != triage.OK || place != 0 || !slices.Equal(got, c.want) {
			t.Errorf("P7, %s: Trim(%q) = %v, %d, %d, want %v", c.name, c.inputs, got, code, place, c.want)
		}
	}
}

func TestTrimErrors(t *testing.T) {
	for _, c := range append(argCases(), argCase{"an input with edges ahead of one too long", steps, 2000, 0, []string{"x", xs(25)}, triage.ErrLong, 1}) {
		list, code, place := triage.Trim(c.image, c.fuel, c.inputs)
		if code != c.code || place != c.place {
			t.Errorf("P7, %s: Trim answers %d, %d, want %d, %d", c.name, code, place, c.code, c.place)
		}
		if len(list) != 0 {
			t.Errorf("P1, %s: beside the error %d Trim answers %v", c.name, code, list)
		}
	}
}

func TestTrimSharesNothing(t *testing.T) {
	inputs := []string{"xxxxx", "x", ""}
	kept := slices.Clone(inputs)
	got, _, _ := triage.Trim(steps, 2000, inputs)
	clear(got)
	if !slices.Equal(inputs, kept) {
		t.Errorf("P1: Trim turned its inputs into %q", inputs)
	}
	if again, _, _ := triage.Trim(steps, 2000, inputs); !slices.Equal(again, []int{0, 2}) {
		t.Errorf("P1: Trim = %v after an earlier answer was changed", again)
	}
}
