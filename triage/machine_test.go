package triage_test

import (
	"math"
	"reflect"
	"slices"
	"strings"
	"testing"

	"triage/triage"
)

const (
	under   = 1
	over    = 2
	zero    = 3
	wild    = 4
	trapped = 5
	deep    = 6
)

func site(function, place int) triage.Site { return triage.Site{Func: function, Place: place} }

func fault(function, place, kind int) triage.Fault {
	return triage.Fault{Site: site(function, place), Kind: kind}
}

// run asserts that a run is allowed, and answers its report with empty lists as nil.
func run(t *testing.T, image, input string, fuel int) triage.Report {
	t.Helper()
	r, code, place := triage.Run(image, input, fuel)
	if code != triage.OK || place != 0 {
		t.Fatalf("P4: Run(%q, %q, %d) answers %d, %d", image, input, fuel, code, place)
	}
	if len(r.Sites) == 0 {
		r.Sites = nil
	}
	if len(r.Edges) == 0 {
		r.Edges = nil
	}
	return r
}

// full is code that pushes as many numbers as the stack holds, the last one n.
func full(n byte) string { return strings.Repeat(in, 15) + push(n) }

func TestRunTop(t *testing.T) {
	for _, c := range []struct {
		name, code, input string
		top               int
	}{
		{"an empty stack", "", "", -1},
		{"PUSH", push(0), "", 0},
		{"PUSH of the greatest", push(255), "", 255},
		{"POP takes one", push(1) + push(2) + pop, "", 1},
		{"POP of the last one", push(1) + pop, "", -1},
		{"DUP leaves both", push(7) + dup + pop, "", 7},
		{"DUP pushes the same", push(7) + dup + eq, "", 1},
		{"ADD", push(2) + push(3) + add, "", 5},
		{"ADD wraps", push(255) + push(2) + add, "", 1},
		{"SUB", push(5) + push(3) + sub, "", 2},
		{"SUB wraps", push(3) + push(5) + sub, "", 254},
		{"SUB of 0", push(3) + push(0) + sub, "", 3},
		{"SUB of 128", push(0) + push(128) + sub, "", 128},
		{"MUL", push(6) + push(7) + mul, "", 42},
		{"MUL wraps", push(255) + push(255) + mul, "", 1},
		{"DIV", push(17) + push(5) + div, "", 3},
		{"DIV of 0", push(0) + push(5) + div, "", 0},
		{"DIV without sign", push(255) + push(2) + div, "", 127},
		{"EQ", push(5) + push(5) + eq, "", 1},
		{"EQ not", push(5) + push(6) + eq, "", 0},
		{"LT", push(5) + push(6) + lt, "", 1},
		{"LT of equals", push(5) + push(5) + lt, "", 0},
		{"LT not", push(6) + push(5) + lt, "", 0},
		{"LT without sign", push(255) + push(1) + lt, "", 0},
		{"IN", in, "a", 'a'},
		{"IN in order", in + pop + in, "ab", 'b'},
		{"IN of a byte above 127", in, "\xff", 255},
		{"IN of none left", in + in, "a", 0},
		{"MORE", more, "a", 1},
		{"MORE of a 0", more, "\x00", 1},
		{"MORE of none", more, "", 0},
		{"MORE of none left", in + more, "a", 0},
		{"MORE takes no byte", more + pop + in, "a", 'a'},
		{"LOAD of an untouched cell", push(15) + load, "", 0},
		{"STORE takes the cell first", push(9) + push(15) + store + push(15) + load, "", 9},
		{"STORE leaves other cells", push(9) + push(3) + store + push(4) + load, "", 0},
		{"STORE takes both", push(8) + push(9) + push(3) + store, "", 8},
		{"LOAD leaves the cell", push(9) + push(0) + store + push(0) + load + pop + push(0) + load, "", 9},
		{"a full stack", full(4), "", 4},
		{"LOAD on a full stack", full(4) + load, "", 0},
		{"ADD on a full stack", full(4) + add, "", 4},
	} {
		r := run(t, image(c.code+end), c.input, 2000)
		if r.End != 0 || r.Top != c.top || r.Fault != (triage.Fault{}) || r.Sites != nil || r.Edges != nil {
			t.Errorf("P4, %s: Run = %+v, want the top %d", c.name, r, c.top)
		}
	}
}

func TestRunFaults(t *testing.T) {
	for _, c := range []struct {
		name, code string
		place      int // behind the function's first one
		kind       int
		steps      int
	}{
		{"POP", pop, 0, under, 1},
		{"DUP", dup, 0, under, 1},
		{"ADD of one", push(1) + add, 2, under, 2},
		{"SUB of one", push(1) + sub, 2, under, 2},
		{"MUL of one", push(1) + mul, 2, under, 2},
		{"DIV of none", div, 0, under, 1},
		{"DIV of one, which is 0", push(0) + div, 2, under, 2},
		{"EQ of one", push(1) + eq, 2, under, 2},
		{"LT of one", push(1) + lt, 2, under, 2},
		{"JZ of none", jz(0), 0, under, 1},
		{"LOAD of none", load, 0, under, 1},
		{"STORE of one", push(1) + store, 2, under, 2},
		{"STORE of one, which is no cell", push(16) + store, 2, under, 2},
		{"PUSH", full(0) + push(0), 17, over, 17},
		{"DUP on a full stack", full(0) + dup, 17, over, 17},
		{"IN on a full stack", full(0) + in, 17, over, 17},
		{"MORE on a full stack", full(0) + more, 17, over, 17},
		{"DIV by 0", push(9) + push(0) + div, 4, zero, 3},
		{"LOAD of the first that is no cell", push(16) + load, 2, wild, 2},
		{"LOAD of the greatest", push(255) + load, 2, wild, 2},
		{"STORE to the first that is no cell", push(1) + push(16) + store, 4, wild, 3},
		{"STORE to the greatest", push(1) + push(255) + store, 4, wild, 3},
		{"TRAP", push(1) + trap, 2, trapped, 2},
	} {
		r := run(t, image(c.code+end), "", 2000)
		want := triage.Report{Fault: fault(0, 2+c.place, c.kind), End: 1, Steps: c.steps, Top: -1}
		if !reflect.DeepEqual(r, want) {
			t.Errorf("P4, %s: Run = %+v, want %+v", c.name, r, want)
		}
	}
}

func TestRunEdges(t *testing.T) {
	loop := image(more + jz(6) + in + jmp(0) + end) // till none is left: JZ at 3, JMP at 6
	for _, c := range []struct {
		name, image, input string
		want               triage.Report
	}{
		{"JMP", image(jmp(3) + trap + end), "", triage.Report{Edges: []int{5}, Steps: 2, Top: -1}},
		{"JZ that goes on at n", image(push(0) + jz(5) + trap + end), "", triage.Report{Edges: []int{9}, Steps: 3, Top: -1}},
		{"JZ that does not", image(push(1) + jz(5) + end + trap), "", triage.Report{Edges: []int{8}, Steps: 3, Top: -1}},
		{"JZ to what is behind it, of 0", image(push(0) + jz(4) + end), "", triage.Report{Edges: []int{9}, Steps: 3, Top: -1}},
		{"JZ to what is behind it, of 255", image(push(255) + jz(4) + end), "", triage.Report{Edges: []int{8}, Steps: 3, Top: -1}},
		{"each once, rising", loop, "abc", triage.Report{Edges: []int{6, 7, 13}, Steps: 15, Top: 'c'}},
		{"JMP back, ahead of what comes first", image(jmp(3) + end + jmp(2)), "", triage.Report{Edges: []int{5, 11}, Steps: 3, Top: -1}},
		{"a jump in the second function goes by its places", image(call(1)+end, jmp(3)+trap+end), "", triage.Report{Edges: []int{7, 13}, Steps: 4, Top: -1}},
		{"a JZ that faults has none", image(jz(0) + end), "", triage.Report{Fault: fault(0, 2, under), End: 1, Steps: 1, Top: -1}},
	} {
		if r := run(t, c.image, c.input, 2000); !reflect.DeepEqual(r, c.want) {
			t.Errorf("P4, %s: Run = %+v, want %+v", c.name, r, c.want)
		}
	}
}

func TestRunCalls(t *testing.T) {
	// Function 0 calls 1 at 4 and at 6, 1 calls 2 at 9, and 2 traps at the second time.
	twice := image(call(1)+call(1)+end, call(2)+end, in+jz(4)+trap+end)
	// Function 0 calls itself as long as there is input.
	self := image(in + jz(5) + call(0) + end)
	for _, c := range []struct {
		name, image, input string
		want               triage.Report
	}{
		{"gone back from", twice, "", triage.Report{Edges: []int{9, 13, 19, 27}, Steps: 13, Top: -1}},
		{"the first call faults", twice, "\x01", triage.Report{Fault: fault(2, 15, trapped), End: 1, Sites: []triage.Site{site(1, 9), site(0, 4)}, Edges: []int{9, 19, 26}, Steps: 5, Top: -1}},
		{"the second call faults", twice, "\x00\x01", triage.Report{Fault: fault(2, 15, trapped), End: 1, Sites: []triage.Site{site(1, 9), site(0, 6)}, Edges: []int{9, 13, 19, 26, 27}, Steps: 11, Top: -1}},
		{"a fault behind a call that was gone back from", image(call(1)+trap, end), "", triage.Report{Fault: fault(0, 5, trapped), End: 1, Edges: []int{7}, Steps: 3, Top: -1}},
		{"the stack and the cells are one for all functions", image(push(7)+push(2)+call(1)+push(2)+load+end, store+end), "", triage.Report{Edges: []int{15}, Steps: 8, Top: 7}},
		{"no call", self, "", triage.Report{Edges: []int{7}, Steps: 3, Top: -1}},
		{"function 0 by a call goes back", self, "\x01\x01", triage.Report{Edges: []int{6, 7, 11}, Steps: 11, Top: -1}},
		{"as many calls as may be", self, strings.Repeat("\x01", 8), triage.Report{Edges: []int{6, 7, 11}, Steps: 35, Top: -1}},
		{"one more", self, strings.Repeat("\x01", 9), triage.Report{Fault: fault(0, 5, deep), End: 1, Sites: slices.Repeat([]triage.Site{site(0, 5)}, 8), Edges: []int{6, 11}, Steps: 27, Top: -1}},
		{"calls that were gone back from do not count", image(call(1)+jmp(0), end), "", triage.Report{End: 2, Edges: []int{7, 11}, Steps: 2000, Top: -1}},
	} {
		if r := run(t, c.image, c.input, 2000); !reflect.DeepEqual(r, c.want) {
			t.Errorf("P4, %s: Run = %+v, want %+v", c.name, r, c.want)
		}
	}
}

// The CALL at 9 is carried out below 7 calls, and faults below 8.
func TestRunCallThatFaultsHasNoEdge(t *testing.T) {
	calls := image(in+jz(6)+call(0)+end+call(1)+end, end)
	r := run(t, calls, strings.Repeat("\x01", 7), 2000)
	want := triage.Report{Edges: []int{8, 9, 13, 19}, Steps: 33, Top: -1}
	if !reflect.DeepEqual(r, want) {
		t.Errorf("P4: Run = %+v, want %+v", r, want)
	}
	r = run(t, calls, strings.Repeat("\x01", 8), 2000)
	want = triage.Report{Fault: fault(0, 9, deep), End: 1, Sites: slices.Repeat([]triage.Site{site(0, 6)}, 8), Edges: []int{8, 9, 13}, Steps: 27, Top: -1}
	if !reflect.DeepEqual(r, want) {
		t.Errorf("P4: Run = %+v, want %+v", r, want)
	}
}

func TestRunFuel(t *testing.T) {
	calls := image(call(1)+end, push(3)+trap)
	for _, c := range []struct {
		name, image string
		fuel        int
		want        triage.Report
	}{
		{"none", image(end), 0, triage.Report{End: 2, Top: -1}},
		{"none for what faults", image(trap), 0, triage.Report{End: 2, Top: -1}},
		{"just enough to end", image(push(3) + end), 2, triage.Report{Steps: 2, Top: 3}},
		{"one less", image(push(3) + end), 1, triage.Report{End: 2, Steps: 1, Top: -1}},
		{"just enough to fault", calls, 3, triage.Report{Fault: fault(1, 8, trapped), End: 1, Sites: []triage.Site{site(0, 3)}, Edges: []int{7}, Steps: 3, Top: -1}},
		{"one less, within a call", calls, 2, triage.Report{End: 2, Edges: []int{7}, Steps: 2, Top: -1}},
		{"the most", image(jmp(0)), 2000, triage.Report{End: 2, Edges: []int{5}, Steps: 2000, Top: -1}},
	} {
		if r := run(t, c.image, "", c.fuel); !reflect.DeepEqual(r, c.want) {
			t.Errorf("P4, %s: Run = %+v, want %+v", c.name, r, c.want)
		}
	}
}

func TestRunErrors(t *testing.T) {
	good, long := image(end), strings.Repeat("x", 25)
	for _, c := range []struct {
		name, image, input string
		fuel               int
		code               triage.Errno
		place              int
	}{
		{"the longest input", good, long[1:], 0, triage.OK, 0},
		{"an input too long", good, long, 0, triage.ErrLong, 0},
		{"an input far too long", good, strings.Repeat("x", 100000), 0, triage.ErrLong, 0},
		{"an input too long ahead of fuel", good, long, -1, triage.ErrLong, 0},
		{"the most fuel", good, "", 2000, triage.OK, 0},
		{"fuel below 0", good, "", -1, triage.ErrArg, 0},
		{"too much fuel", good, "", 2001, triage.ErrArg, 0},
		{"the least number", good, "", math.MinInt, triage.ErrArg, 0},
		{"the greatest number", good, "", math.MaxInt, triage.ErrArg, 0},
	} {
		r, code, place := triage.Run(c.image, c.input, c.fuel)
		if code != c.code || place != c.place {
			t.Errorf("P4, %s: Run answers %d, %d, want %d, %d", c.name, code, place, c.code, c.place)
		}
		if code != triage.OK && !reflect.DeepEqual(r, triage.Report{}) {
			t.Errorf("P1, %s: beside an error Run answers %+v", c.name, r)
		}
	}
}

func TestRunOfBrokenImages(t *testing.T) {
	for _, c := range brokenImages {
		r, code, place := triage.Run(c.image, strings.Repeat("x", 25), -1)
		if code != c.code || place != c.place {
			t.Errorf("P4, %s: Run(%q) answers %d, %d, want %d, %d", c.name, c.image, code, place, c.code, c.place)
		}
		if !reflect.DeepEqual(r, triage.Report{}) {
			t.Errorf("P1, %s: beside an error Run answers %+v", c.name, r)
		}
	}
}

func TestRunAnswersNewMemory(t *testing.T) {
	calls := image(call(1)+end, call(2)+end, trap)
	r := run(t, calls, "", 9)
	want := run(t, calls, "", 9)
	clear(r.Sites)
	clear(r.Edges)
	if again := run(t, calls, "", 9); !reflect.DeepEqual(again, want) {
		t.Errorf("P1: Run = %+v after an earlier answer was changed, want %+v", again, want)
	}
}
