package triage_test

import (
	"math"
	"reflect"
	"slices"
	"strings"
	"testing"

	"triage/triage"
)

// ladder calls itself (at 5) for each byte that is not 0, and traps at one that is.
var ladder = image(in + jz(6) + call(0) + end + trap)

// fork comes to its TRAP from two places of function 0 (7 and 10), both by the one CALL of function 1 (13).
var fork = image(in+jz(6)+call(1)+end+call(1)+end, call(2)+end, trap)

// medley is calm if the first byte is 0, faults by Under if the second one is, by Zero if the third one is, else by Trap.
var medley = image(in + jz(11) + in + jz(10) + in + jz(12) + trap + pop + end + push(0) + dup + div + end)

func xs(n int) string { return strings.Repeat("x", n) }

func rungs(n int) []triage.Site { return slices.Repeat([]triage.Site{site(0, 5)}, n) }

// buckets asserts that sorting is allowed, and answers the buckets with empty lists as nil.
func buckets(t *testing.T, image string, fuel, depth int, inputs []string) []triage.Bucket {
	t.Helper()
	list, code, place := triage.Buckets(image, fuel, depth, inputs)
	if code != triage.OK || place != 0 {
		t.Fatalf("P5: Buckets(%q, %d, %d, %q) answers %d, %d", image, fuel, depth, inputs, code, place)
	}
	for i := range list {
		if len(list[i].Sites) == 0 {
			list[i].Sites = nil
		}
	}
	if len(list) == 0 {
		return nil
	}
	return list
}

func TestBuckets(t *testing.T) {
	for _, c := range []struct {
		name, image string
		fuel, depth int
		inputs      []string
		want        []triage.Bucket
	}{
		{"no inputs", ladder, 2000, 6, nil, nil},
		{"all calm", medley, 2000, 6, []string{"", "\x00x", ""}, nil},
		{"by kind, in the order of the first", medley, 2000, 6, []string{"xxx", "", "xx", "x", "xxxx", "xx"}, []triage.Bucket{
			{Kind: trapped, Members: []int{0, 4}, Rep: 0},
			{Kind: zero, Members: []int{2, 5}, Rep: 2},
			{Kind: under, Members: []int{3}, Rep: 3},
		}},
		{"the shortest, of these the first", medley, 2000, 6, []string{"xxxxx", "xxxx", "", "xxx", "yyy", "xxxx"}, []triage.Bucket{
			{Kind: trapped, Members: []int{0, 1, 3, 4, 5}, Rep: 3},
		}},
		{"the place of the fault is not in the key", image(in + jz(4) + trap + trap), 2000, 6, []string{"x", ""}, []triage.Bucket{
			{Kind: trapped, Members: []int{0, 1}, Rep: 1},
		}},
		{"calls at depth 0", fork, 2000, 0, []string{"x", ""}, []triage.Bucket{
			{Kind: trapped, Members: []int{0, 1}, Rep: 1},
		}},
		{"the last call first", fork, 2000, 1, []string{"x", ""}, []triage.Bucket{
			{Kind: trapped, Sites: []triage.Site{site(1, 13)}, Members: []int{0, 1}, Rep: 1},
		}},
		{"apart by the call behind it", fork, 2000, 2, []string{"x", "", "y"}, []triage.Bucket{
			{Kind: trapped, Sites: []triage.Site{site(1, 13), site(0, 7)}, Members: []int{0, 2}, Rep: 0},
			{Kind: trapped, Sites: []triage.Site{site(1, 13), site(0, 10)}, Members: []int{1}, Rep: 1},
		}},
		{"fewer calls than depth", ladder, 2000, 3, []string{xs(2), xs(0), xs(1)}, []triage.Bucket{
			{Kind: trapped, Sites: rungs(2), Members: []int{0}, Rep: 0},
			{Kind: trapped, Members: []int{1}, Rep: 1},
			{Kind: trapped, Sites: rungs(1), Members: []int{2}, Rep: 2},
		}},
		{"more calls than the greatest depth", ladder, 2000, 6, []string{xs(8), xs(9), xs(7), xs(5), xs(6), xs(24)}, []triage.Bucket{
			{Kind: trapped, Sites: rungs(6), Members: []int{0, 2, 4}, Rep: 4},
			{Kind: deep, Sites: rungs(6), Members: []int{1, 5}, Rep: 1},
			{Kind: trapped, Sites: rungs(5), Members: []int{3}, Rep: 3},
		}},
		{"just enough fuel for one of them", ladder, 9, 0, []string{xs(2), xs(3)}, []triage.Bucket{
			{Kind: trapped, Members: []int{0}, Rep: 0},
		}},
		{"no fuel", ladder, 0, 0, []string{xs(2), xs(3)}, nil},
		{"the most inputs", image(trap), 1, 0, make([]string, 12), []triage.Bucket{
			{Kind: trapped, Members: []int{0, 1, 2, 3, 4, 5, 6, 7, 8, 9, 10, 11}, Rep: 0},
		}},
	} {
		if got := buckets(t, c.image, c.fuel, c.depth, c.inputs); !reflect.DeepEqual(got, c.want) {
			t.Errorf("P5, %s: Buckets = %+v, want %+v", c.name, got, c.want)
		}
	}
}

type argCase struct {
	name        string
	image       string
	fuel, depth int
	inputs      []string
	code        triage.Errno
	place       int
}

// argCases are right and wrong arguments of all calls that take several inputs.
func argCases() []argCase {
	good := image(end)
	cases := []argCase{
		{"the least", good, 0, 0, nil, triage.OK, 0},
		{"the most", good, 2000, 6, slices.Repeat([]string{xs(24)}, 12), triage.OK, 0},
		{"fuel below 0", good, -1, 0, nil, triage.ErrArg, 0},
		{"too much fuel", good, 2001, 0, nil, triage.ErrArg, 0},
		{"the least fuel of all", good, math.MinInt, 0, nil, triage.ErrArg, 0},
		{"the most fuel of all", good, math.MaxInt, 0, nil, triage.ErrArg, 0},
		{"too many inputs", good, 0, 0, make([]string, 13), triage.ErrArg, 0},
		{"far too many inputs", good, 0, 0, make([]string, 5000), triage.ErrArg, 0},
		{"too many inputs, all too long", good, 0, 0, slices.Repeat([]string{xs(25)}, 13), triage.ErrArg, 0},
		{"fuel ahead of an input", good, -1, 0, []string{xs(25)}, triage.ErrArg, 0},
		{"the first input too long", good, 0, 0, []string{xs(25), xs(25)}, triage.ErrLong, 0},
		{"the last input too long", good, 0, 0, append(make([]string, 11), xs(25)), triage.ErrLong, 11},
		{"two inputs too long", good, 0, 0, []string{"", xs(24), xs(25), "", xs(100000)}, triage.ErrLong, 2},
	}
	for _, c := range brokenImages {
		cases = append(cases, argCase{c.name, c.image, -1, -1, slices.Repeat([]string{xs(25)}, 13), c.code, c.place})
		cases = append(cases, argCase{c.name, c.image, 0, 0, nil, c.code, c.place})
	}
	return cases
}

func TestBucketsErrors(t *testing.T) {
	for _, c := range append(argCases(),
		argCase{"depth below 0", ladder, 0, -1, nil, triage.ErrArg, 0},
		argCase{"too great a depth", ladder, 0, 7, nil, triage.ErrArg, 0},
		argCase{"the least depth of all", ladder, 0, math.MinInt, nil, triage.ErrArg, 0},
		argCase{"the greatest depth of all", ladder, 0, math.MaxInt, nil, triage.ErrArg, 0},
		argCase{"depth ahead of an input", ladder, 0, 7, []string{xs(25)}, triage.ErrArg, 0},
		argCase{"an input that crashes ahead of one too long", ladder, 2000, 6, []string{"x", xs(25)}, triage.ErrLong, 1},
	) {
		list, code, place := triage.Buckets(c.image, c.fuel, c.depth, c.inputs)
		if code != c.code || place != c.place {
			t.Errorf("P5, %s: Buckets answers %d, %d, want %d, %d", c.name, code, place, c.code, c.place)
		}
		if len(list) != 0 {
			t.Errorf("P1, %s: beside the error %d Buckets answers %+v", c.name, code, list)
		}
	}
}

func TestBucketsShareNothing(t *testing.T) {
	inputs := []string{xs(2), xs(9), xs(3), xs(8)}
	kept := slices.Clone(inputs)
	want := buckets(t, ladder, 2000, 2, inputs)
	got := buckets(t, ladder, 2000, 2, inputs)
	for i := range got {
		_ = append(got[i].Sites, site(99, 99))
		_ = append(got[i].Members, 99)
		clear(got[i].Sites)
		clear(got[i].Members)
		if !reflect.DeepEqual(got[i+1:], want[i+1:]) {
			t.Errorf("P1: a change of bucket %d shows in those behind it: %+v, want %+v", i, got[i+1:], want[i+1:])
		}
	}
	if !slices.Equal(inputs, kept) {
		t.Errorf("P1: Buckets turned its inputs into %q", inputs)
	}
	if again := buckets(t, ladder, 2000, 2, inputs); !reflect.DeepEqual(again, want) {
		t.Errorf("P1: Buckets = %+v after an earlier answer was changed, want %+v", again, want)
	}
}
