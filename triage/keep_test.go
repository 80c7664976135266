package triage_test

import (
	"math"
	"reflect"
	"runtime"
	"slices"
	"sync"
	"testing"
	"time"

	"triage/triage"
)

// keptBundles asserts that Triage is allowed and that the answer is what P10 says, and answers the bundles.
func keptBundles(t *testing.T, image string, fuel, depth int, inputs []string) []triage.Bundle {
	t.Helper()
	texts, code, place := triage.Triage(image, fuel, depth, inputs)
	if code != triage.OK || place != 0 {
		t.Fatalf("P10: Triage(%q, %d, %d, %q) answers %d, %d", image, fuel, depth, inputs, code, place)
	}
	sorted := buckets(t, image, fuel, depth, inputs)
	if len(texts) != len(sorted) {
		t.Fatalf("P10: Triage(%q, %d, %d, %q) answers %d bundles of %d buckets", image, fuel, depth, inputs, len(texts), len(sorted))
	}
	var list []triage.Bundle
	for i, text := range texts {
		got := unpack(t, text)
		small := shrunkTo(t, image, fuel, depth, inputs[sorted[i].Rep], got.Input)
		want := triage.Bundle{Image: image, Fuel: fuel, Depth: depth, Input: small, Kind: sorted[i].Kind, Sites: sorted[i].Sites, Edges: run(t, image, small, fuel).Edges}
		if !reflect.DeepEqual(got, want) {
			t.Fatalf("P10: Triage(%q, %d, %d, %q)[%d] is %+v, want %+v", image, fuel, depth, inputs, i, got, want)
		}
		if code := triage.Replay(text); code != triage.OK {
			t.Fatalf("P10: Triage(%q, %d, %d, %q)[%d]: Replay answers %d", image, fuel, depth, inputs, i, code)
		}
		list = append(list, got)
	}
	return list
}

func TestTriage(t *testing.T) {
	bundle := func(image string, depth int, input string, kind int, sites []triage.Site, edges ...int) triage.Bundle {
		return triage.Bundle{Image: image, Fuel: 2000, Depth: depth, Input: input, Kind: kind, Sites: sites, Edges: edges}
	}
	for _, c := range []struct {
		name, image string
		depth       int
		inputs      []string
		want        []triage.Bundle
	}{
		{"no inputs", ladder, 6, nil, nil},
		{"all calm", medley, 6, []string{"", "\x00x", ""}, nil},
		{"one crash", image(trap), 0, []string{"abc"}, []triage.Bundle{
			bundle(image(trap), 0, "", trapped, nil),
		}},
		{"by kind, in the order of the first", medley, 6, []string{"abcd", "", "ab", "a", "abc", "ac"}, []triage.Bundle{
			bundle(medley, 6, "abc", trapped, nil, 6, 12, 18),
			bundle(medley, 6, "ab", zero, nil, 6, 12, 19),
			bundle(medley, 6, "a", under, nil, 6, 13),
		}},
		{"of the shortest the first", medley, 6, []string{"xxxx", "abcd", "efg", "hij"}, []triage.Bundle{
			bundle(medley, 6, "efg", trapped, nil, 6, 12, 18),
		}},
		{"the edges are those of the shrunk input", image(in + jz(5) + in + trap + trap), 6, []string{"ab"}, []triage.Bundle{
			bundle(image(in+jz(5)+in+trap+trap), 6, "", trapped, nil, 7),
		}},
		{"by the last call", fork, 1, []string{"x", ""}, []triage.Bundle{
			bundle(fork, 1, "", trapped, []triage.Site{site(1, 13)}, 11, 21, 27),
		}},
		{"by both calls", fork, 2, []string{"xyz", "\x00"}, []triage.Bundle{
			bundle(fork, 2, "x", trapped, []triage.Site{site(1, 13), site(0, 7)}, 10, 15, 27),
			bundle(fork, 2, "", trapped, []triage.Site{site(1, 13), site(0, 10)}, 11, 21, 27),
		}},
	} {
		if got := keptBundles(t, c.image, 2000, c.depth, c.inputs); !reflect.DeepEqual(got, c.want) {
			t.Errorf("P10, %s: Triage(%q) = %+v, want %+v", c.name, c.inputs, got, c.want)
		}
	}
}

// everyRung are as many inputs as there may be; by depth 6 they have eight keys.
func everyRung() []string {
	var inputs []string
	for n := 11; n >= 0; n-- {
		inputs = append(inputs, xs(n))
	}
	return inputs
}

func TestTriageOfManyCrashes(t *testing.T) {
	got := keptBundles(t, ladder, 2000, 6, everyRung())
	var kinds, lengths []int
	for _, b := range got {
		kinds = append(kinds, b.Kind)
		lengths = append(lengths, len(b.Input))
	}
	if !slices.Equal(kinds, []int{deep, trapped, trapped, trapped, trapped, trapped, trapped, trapped}) || !slices.Equal(lengths, []int{9, 6, 5, 4, 3, 2, 1, 0}) {
		t.Errorf("P10: Triage keeps kinds %v, with inputs of the lengths %v", kinds, lengths)
	}
}

func TestTriageErrors(t *testing.T) {
	for _, c := range append(argCases(),
		argCase{"depth below 0", ladder, 0, -1, nil, triage.ErrArg, 0},
		argCase{"too great a depth", ladder, 0, 7, nil, triage.ErrArg, 0},
		argCase{"the least depth of all", ladder, 0, math.MinInt, nil, triage.ErrArg, 0},
		argCase{"the greatest depth of all", ladder, 0, math.MaxInt, nil, triage.ErrArg, 0},
		argCase{"depth ahead of an input", ladder, 0, 7, []string{xs(25)}, triage.ErrArg, 0},
		argCase{"an input that crashes ahead of one too long", ladder, 2000, 6, []string{"x", xs(25)}, triage.ErrLong, 1},
	) {
		list, code, place := triage.Triage(c.image, c.fuel, c.depth, c.inputs)
		if code != c.code || place != c.place {
			t.Errorf("P10, %s: Triage answers %d, %d, want %d, %d", c.name, code, place, c.code, c.place)
		}
		if len(list) != 0 {
			t.Errorf("P1, %s: beside the error %d Triage answers %q", c.name, code, list)
		}
	}
}

func TestTriageSharesNothing(t *testing.T) {
	inputs := everyRung()
	want, _, _ := triage.Triage(ladder, 2000, 6, inputs)
	got, _, _ := triage.Triage(ladder, 2000, 6, inputs)
	clear(got)
	if !slices.Equal(inputs, everyRung()) {
		t.Errorf("P1: Triage turned its inputs into %q", inputs)
	}
	if again, _, _ := triage.Triage(ladder, 2000, 6, inputs); !slices.Equal(again, want) {
		t.Errorf("P1: Triage = %q after an earlier answer was changed, want %q", again, want)
	}
}

func TestTriageHangsOnNoOrder(t *testing.T) {
	inputs := everyRung()
	want, _, _ := triage.Triage(ladder, 2000, 6, inputs)
	var calls sync.WaitGroup
	for range 16 {
		calls.Go(func() {
			for range 50 {
				if got, code, _ := triage.Triage(ladder, 2000, 6, inputs); code != triage.OK || !slices.Equal(got, want) {
					t.Errorf("P10: the same call answers %q, %d, and before it %q", got, code, want)
				}
			}
		})
	}
	calls.Wait()
}

// A goroutine that has done its work may still be counted for a while, one that waits for ever is counted always.
func TestTriageLeavesNoGoroutines(t *testing.T) {
	before := runtime.NumGoroutine()
	for range 50 {
		triage.Triage(ladder, 2000, 6, everyRung())
		triage.Triage(ladder, 2000, 6, nil)
		triage.Triage(ladder, 2000, 7, everyRung())
	}
	for range 1000 {
		if runtime.NumGoroutine() <= before {
			return
		}
		time.Sleep(time.Millisecond)
	}
	t.Errorf("%d goroutines ahead of the calls of Triage, %d behind them", before, runtime.NumGoroutine())
}
