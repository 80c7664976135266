package triage_test

import (
	"errors"
	"math"
	"reflect"
	"slices"
	"strings"
	"testing"

	"triage/triage"
)

// dice is a row of numbers that is the same at each test.
type dice uint64

func (d *dice) below(n int) int {
	*d = *d*6364136223846793005 + 1442695040888963407
	return int(uint64(*d)>>33) % n
}

// text is up to that many bytes, most of them small.
func (d *dice) text(most int) string {
	bytes := make([]byte, d.below(most+1))
	for i := range bytes {
		bytes[i] = byte(d.below(20))
		if d.below(8) == 0 {
			bytes[i] = byte(d.below(256))
		}
	}
	return string(bytes)
}

// code is a function of an image with that many functions: its jumps lead to instructions.
func (d *dice) code(functions int) string {
	var code []byte
	var heads []int
	var jumps []int
	for range 1 + d.below(12) {
		op := byte(d.below(18))
		heads = append(heads, len(code))
		code = append(code, op)
		switch op {
		case 1:
			code = append(code, byte(d.below(20)))
		case 10, 11:
			jumps = append(jumps, len(code))
			code = append(code, 0)
		case 12:
			code = append(code, byte(d.below(functions)))
		}
	}
	for _, place := range jumps {
		code[place] = byte(heads[d.below(len(heads))])
	}
	return string(code) + []string{end, jmp(0), trap}[d.below(3)]
}

func (d *dice) image() string {
	code := make([]string, 1+d.below(6))
	for i := range code {
		code[i] = d.code(len(code))
	}
	return image(code...)
}

func TestCheckAndExplainAgree(t *testing.T) {
	d := dice(1)
	seen := map[triage.Errno]int{}
	for range 200000 {
		text := d.text(12)
		if d.below(2) == 0 {
			text = d.image()
			at := d.below(len(text))
			text = text[:at] + string([]byte{byte(d.below(20))}) + text[at+1:]
		}
		code, place := triage.Check(text)
		seen[code]++
		if place < 0 || place > len(text) || code == triage.OK && place != 0 {
			t.Fatalf("P2: Check(%q) = %d, %d", text, code, place)
		}
		var flaw *triage.Flaw
		err := triage.Explain(text)
		if code == triage.OK && err != nil {
			t.Fatalf("P3: Check(%q) is OK, Explain answers %v", text, err)
		}
		if code != triage.OK && (!errors.Is(err, triage.Broken) || !errors.As(err, &flaw) || *flaw != triage.Flaw{Code: code, Place: place}) {
			t.Fatalf("P3: Check(%q) = %d, %d, Explain answers %v", text, code, place, err)
		}
	}
	for code := triage.OK; code <= triage.ErrFall; code++ {
		if code != triage.ErrLong && seen[code] < 100 {
			t.Errorf("only %d texts are for the error %d: the sweep is too narrow", seen[code], code)
		}
	}
}

func TestRunsHoldTogether(t *testing.T) {
	d := dice(2)
	var ends [3]int
	var kinds [7]int
	for range 50000 {
		image, input, fuel := d.image(), d.text(24), d.below(300)
		r := run(t, image, input, fuel)
		ends[r.End]++
		kinds[r.Kind]++
		lookAt(t, image, r, fuel)
		if again := run(t, image, input, fuel); !reflect.DeepEqual(again, r) {
			t.Fatalf("P1: Run(%q, %q, %d) = %+v, and then %+v", image, input, fuel, r, again)
		}
		if r.End == 2 {
			continue
		}
		if enough := run(t, image, input, r.Steps); !reflect.DeepEqual(enough, r) {
			t.Fatalf("P4: Run(%q, %q) = %+v with fuel %d, %+v with %d", image, input, r, fuel, enough, r.Steps)
		}
		if less := run(t, image, input, r.Steps-1); less.End != 2 || less.Steps != r.Steps-1 {
			t.Fatalf("P4: Run(%q, %q, %d) = %+v, but it takes %d steps", image, input, r.Steps-1, less, r.Steps)
		}
	}
	if slices.Min(ends[:]) < 100 || slices.Min(kinds[:]) < 20 {
		t.Errorf("ends %v, kinds %v: the sweep is too narrow", ends, kinds)
	}
}

// lookAt holds a report against what P4 says of all reports.
func lookAt(t *testing.T, image string, r triage.Report, fuel int) {
	t.Helper()
	good := r.Steps <= fuel && len(r.Sites) <= 8 && slices.IsSorted(r.Edges) && len(slices.Compact(slices.Clone(r.Edges))) == len(r.Edges)
	good = good && (r.End != 2 || r.Steps == fuel)
	good = good && (r.End == 1) == (r.Kind != 0)
	good = good && (r.End == 1 || r.Fault == triage.Fault{} && r.Sites == nil)
	good = good && (r.Top == -1 || r.End == 0 && r.Top >= 0 && r.Top <= 255)
	for _, edge := range r.Edges {
		op := image[edge/2]
		good = good && (op == 11 || edge%2 == 1 && (op == 10 || op == 12))
	}
	for i, s := range r.Sites {
		good = good && image[s.Place] == 12 && slices.Contains(r.Edges, 2*s.Place+1)
		inner := r.Site
		if i > 0 {
			inner = r.Sites[i-1]
		}
		good = good && int(image[s.Place+1]) == inner.Func
	}
	if !good {
		t.Fatalf("P4: image %q, fuel %d: %+v does not hold together", image, fuel, r)
	}
}

// No call may panic, whatever it is handed.
func TestNoCallPanics(t *testing.T) {
	d := dice(3)
	texts := []string{"", "\x00", strings.Repeat("\xff", 1000), image(end), image(trap)}
	for range 300 {
		texts = append(texts, d.text(220))
	}
	numbers := []int{math.MinInt, -1, 0, 1, 6, 7, 2000, 2001, math.MaxInt}
	for _, text := range texts {
		triage.Check(text)
		triage.Explain(text)
		triage.Unpack(text)
		triage.Replay(text)
		for _, n := range numbers {
			triage.Run(text, text, n)
			triage.Run(image(in+jmp(0)), text, n)
			triage.Buckets(text, n, n, nil)
			triage.Buckets(text, n, n, texts)
			triage.Buckets(ladder, n, n, []string{text, text})
			triage.Shrink(text, n, n, text)
			triage.Shrink(ladder, n, n, text)
			triage.Trim(text, n, texts)
			triage.Trim(ladder, n, []string{text, text})
			triage.Triage(text, n, n, texts)
			triage.Triage(ladder, n, n, []string{text, text})
			triage.Pack(triage.Bundle{Image: text, Fuel: n, Depth: n, Input: text, Kind: n, Sites: []triage.Site{{Func: n, Place: n}}, Edges: []int{n}})
		}
	}
	triage.Pack(triage.Bundle{})
}
