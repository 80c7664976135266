package triage_test

import (
	"reflect"
	"slices"
	"testing"

	"triage/triage"
)

// maze is an image whose way hangs on the input at many places, and which faults at some.
func (d *dice) maze() string {
	code := make([]string, 1+d.below(4))
	for i := range code {
		code[i] = d.halls(len(code))
	}
	return image(code...)
}

// halls is a function of a maze: first it looks at the input, then come pieces that leave the stack as it was, or fault.
func (d *dice) halls(functions int) string {
	code := d.door()
	heads := []int{0}
	for range 1 + d.below(6) {
		if len(code) > 24 {
			break
		}
		heads = append(heads, len(code))
		switch d.below(8) {
		case 0:
			code += []string{trap, pop, push(16) + load, push(0) + dup + div, full(0) + in}[d.below(5)]
		case 1, 2, 3:
			code += call(byte(d.below(functions)))
		case 4:
			code += jmp(0)
		default:
			code += d.door()
		}
	}
	heads = append(heads, len(code))
	return d.leading(code+[]string{end, end, jmp(0), trap}[d.below(4)], heads)
}

// door goes on at the function's beginning, or behind the door, by a byte of the input or by whether there is one.
func (d *dice) door() string {
	return []string{
		in + push(byte(d.below(3))) + eq,
		in + push(byte(1+d.below(2))) + lt,
		in,
		more,
	}[d.below(4)] + jz(0)
}

// leading turns the jumps of code into ones to any of its heads.
func (d *dice) leading(code string, heads []int) string {
	led := []byte(code)
	for place := 0; place < len(led); place++ {
		switch led[place] {
		case 10, 11:
			led[place+1] = byte(heads[d.below(len(heads))])
			place++
		case 1, 12:
			place++
		}
	}
	return string(led)
}

// small is an input of few different bytes.
func (d *dice) small() string {
	text := make([]byte, d.below(25))
	for i := range text {
		text[i] = byte(d.below(4))
	}
	return string(text)
}

func (d *dice) inputs() []string {
	inputs := make([]string, d.below(13))
	for i := range inputs {
		inputs[i] = d.small()
		if i > 0 && d.below(4) == 0 {
			inputs[i] = inputs[d.below(i)]
		}
	}
	return inputs
}

func TestBucketsOfMazes(t *testing.T) {
	d := dice(4)
	var counts [13]int
	for range 20000 {
		image, fuel, depth, inputs := d.maze(), d.below(200), d.below(7), d.inputs()
		got := buckets(t, image, fuel, depth, inputs)
		counts[len(got)]++
		if want := sortedCrashes(t, image, fuel, depth, inputs); !reflect.DeepEqual(got, want) {
			t.Fatalf("P5: Buckets(%q, %d, %d, %q) = %+v, want %+v", image, fuel, depth, inputs, got, want)
		}
	}
	if slices.Min(counts[:5]) < 100 {
		t.Errorf("numbers of buckets %v: the sweep is too narrow", counts)
	}
}

// sortedCrashes looks through all buckets for each input, and does without a key that can be looked up.
func sortedCrashes(t *testing.T, image string, fuel, depth int, inputs []string) []triage.Bucket {
	t.Helper()
	var list []triage.Bucket
	for i, input := range inputs {
		key, faults := crashOf(t, image, fuel, depth, input)
		if !faults {
			continue
		}
		at := slices.IndexFunc(list, func(b triage.Bucket) bool { return reflect.DeepEqual(crash{b.Kind, b.Sites}, key) })
		if at < 0 {
			at = len(list)
			list = append(list, triage.Bucket{Kind: key.kind, Sites: key.sites})
		}
		list[at].Members = append(list[at].Members, i)
	}
	for i, b := range list {
		list[i].Rep = slices.MinFunc(b.Members, func(a, b int) int {
			if len(inputs[a]) != len(inputs[b]) {
				return len(inputs[a]) - len(inputs[b])
			}
			return a - b
		})
	}
	return list
}

func TestShrinkInMazes(t *testing.T) {
	d := dice(5)
	var lengths [25]int
	zeros := 0
	for range 20000 {
		image, fuel, depth, input := d.maze(), d.below(200), d.below(7), d.small()
		if _, faults := crashOf(t, image, fuel, depth, input); !faults {
			if got, code, place := triage.Shrink(image, fuel, depth, input); got != "" || code != triage.ErrCalm || place != 0 {
				t.Fatalf("P6: Shrink(%q, %d, %d, %q) = %q, %d, %d, want ErrCalm", image, fuel, depth, input, got, code, place)
			}
			continue
		}
		got := shrunk(t, image, fuel, depth, input)
		lengths[len(got)]++
		if slices.Contains([]byte(got), 0) {
			zeros++
		}
	}
	if slices.Min(lengths[:5]) < 50 || zeros < 50 {
		t.Errorf("lengths %v, with a 0 %d: the sweep is too narrow", lengths, zeros)
	}
}

func TestTrimOfMazes(t *testing.T) {
	d := dice(6)
	var counts [13]int
	for range 20000 {
		image, fuel, inputs := d.maze(), d.below(200), d.inputs()
		got, code, place := triage.Trim(image, fuel, inputs)
		if code != triage.OK || place != 0 {
			t.Fatalf("P7: Trim(%q, %d, %q) answers %d, %d", image, fuel, inputs, code, place)
		}
		counts[len(got)]++
		if want := fewest(t, image, fuel, inputs); !slices.Equal(got, want) {
			t.Fatalf("P7: Trim(%q, %d, %q) = %v, want %v", image, fuel, inputs, got, want)
		}
	}
	if slices.Min(counts[:4]) < 100 {
		t.Errorf("numbers of picked ones %v: the sweep is too narrow", counts)
	}
}

// fewest picks as P7 says, with a map of the edges that were reached.
func fewest(t *testing.T, image string, fuel int, inputs []string) []int {
	t.Helper()
	var picked []int
	reached := map[int]bool{}
	for {
		best, most := -1, 0
		for i, input := range inputs {
			fresh := 0
			for _, edge := range run(t, image, input, fuel).Edges {
				if !reached[edge] {
					fresh++
				}
			}
			if fresh > most || fresh > 0 && fresh == most && len(input) < len(inputs[best]) {
				best, most = i, fresh
			}
		}
		if best < 0 {
			slices.Sort(picked)
			return picked
		}
		picked = append(picked, best)
		for _, edge := range run(t, image, inputs[best], fuel).Edges {
			reached[edge] = true
		}
	}
}

func TestTriageOfMazes(t *testing.T) {
	d := dice(10)
	var counts [13]int
	for range 5000 {
		image, fuel, depth, inputs := d.maze(), d.below(200), d.below(7), d.inputs()
		counts[len(keptBundles(t, image, fuel, depth, inputs))]++
	}
	if slices.Min(counts[:5]) < 50 {
		t.Errorf("numbers of bundles %v: the sweep is too narrow", counts)
	}
}

// A bundle of any input's run plays again, and one with the report of another run does so only where both tell the same.
func TestReplayInMazes(t *testing.T) {
	d := dice(11)
	var fresh, stale int
	for range 20000 {
		image, fuel, depth := d.maze(), d.below(200), d.below(7)
		input, other := d.small(), d.small()
		key, faults := crashOf(t, image, fuel, depth, other)
		if !faults {
			continue
		}
		edges := run(t, image, other, fuel).Edges
		now, faultsNow := crashOf(t, image, fuel, depth, input)
		want := triage.ErrStale
		if faultsNow && reflect.DeepEqual(now, key) && slices.Equal(run(t, image, input, fuel).Edges, edges) {
			want = triage.OK
			fresh++
		} else {
			stale++
		}
		b := triage.Bundle{Image: image, Fuel: fuel, Depth: depth, Input: input, Kind: key.kind, Sites: key.sites, Edges: edges}
		if code := triage.Replay(pack(t, b)); code != want {
			t.Fatalf("P9: Replay of %+v answers %d, want %d", b, code, want)
		}
		b.Input = other
		if code := triage.Replay(pack(t, b)); code != triage.OK {
			t.Fatalf("P9: Replay of %+v answers %d, want OK", b, code)
		}
	}
	if fresh < 500 || stale < 500 {
		t.Errorf("%d fresh, %d stale: the sweep is too narrow", fresh, stale)
	}
}
