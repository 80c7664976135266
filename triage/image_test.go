package triage_test

import (
	"errors"
	"strings"
	"testing"

	"triage/triage"
)

const (
	end   = "\x00"
	pop   = "\x02"
	dup   = "\x03"
	add   = "\x04"
	sub   = "\x05"
	mul   = "\x06"
	div   = "\x07"
	eq    = "\x08"
	lt    = "\x09"
	in    = "\x0d"
	more  = "\x0e"
	load  = "\x0f"
	store = "\x10"
	trap  = "\x11"
)

func push(n byte) string { return string([]byte{1, n}) }
func jmp(n byte) string  { return string([]byte{10, n}) }
func jz(n byte) string   { return string([]byte{11, n}) }
func call(n byte) string { return string([]byte{12, n}) }

// image puts the head ahead of the code of functions.
func image(code ...string) string {
	head := []byte{byte(len(code))}
	for _, c := range code {
		head = append(head, byte(len(c)))
	}
	return string(head) + strings.Join(code, "")
}

// padded is code of a function of that length.
func padded(length int) string { return strings.Repeat(pop, length-1) + end }

type checkCase struct {
	name  string
	image string
	code  triage.Errno
	place int
}

var goodImages = []checkCase{
	{"the least", image(end), 0, 0},
	{"TRAP at the end", image(trap), 0, 0},
	{"JMP at the end", image(jmp(0)), 0, 0},
	{"JMP to the last instruction", image(jmp(3) + pop + end), 0, 0},
	{"JZ to the last instruction", image(jz(2) + end), 0, 0},
	{"CALL of the last function", image(call(5)+end, end, end, end, end, end), 0, 0},
	{"CALL of its own function", image(call(0) + end), 0, 0},
	{"an n that is no op", image(push(255) + end), 0, 0},
	{"an n that is an op", image(push(18) + push(1) + end), 0, 0},
	{"all ops", image(push(1) + pop + dup + add + sub + mul + div + eq + lt + jmp(0) + jz(0) + call(0) + in + more + load + store + trap + end), 0, 0},
	{"the longest function", image(padded(60)), 0, 0},
	{"the most functions", image(end, end, end, end, end, end), 0, 0},
	{"the longest image", image(padded(60), padded(60), padded(60), padded(15)), 0, 0},
	{"code behind an END", image(end + pop + trap), 0, 0},
}

var brokenImages = []checkCase{
	{"too long by a byte", image(padded(60), padded(60), padded(60), padded(16)), triage.ErrLong, 0},
	{"too long and no head", strings.Repeat("\x00", 201), triage.ErrLong, 0},
	{"far too long", strings.Repeat("x", 100000), triage.ErrLong, 0},

	{"empty", "", triage.ErrHead, 0},
	{"no functions", "\x00", triage.ErrHead, 0},
	{"no functions, and more", "\x00\x01\x00", triage.ErrHead, 0},
	{"seven functions", image(end, end, end, end, end, end, end), triage.ErrHead, 0},
	{"255 functions", "\xff", triage.ErrHead, 0},
	{"no length", "\x01", triage.ErrHead, 1},
	{"the second length is missing", "\x02\x01", triage.ErrHead, 2},
	{"a length of 0", image(""), triage.ErrHead, 1},
	{"a second length of 0", image(end, ""), triage.ErrHead, 2},
	{"a length of 61", image(padded(61)), triage.ErrHead, 1},
	{"a length of 255 ahead of a missing one", "\x02\xff", triage.ErrHead, 1},
	{"no code", "\x01\x01", triage.ErrHead, 2},
	{"code too short", "\x01\x03\x00\x00", triage.ErrHead, 4},
	{"code of the last function too short", "\x02\x01\x02\x00\x00", triage.ErrHead, 5},
	{"lengths that no image can hold", "\x04\x3c\x3c\x3c\x3c" + strings.Repeat("\x00", 195), triage.ErrHead, 200},
	{"a byte behind the code", image(end) + "\x00", triage.ErrHead, 3},
	{"two bytes behind the code", image(end, end) + "\x00\x00", triage.ErrHead, 5},
	{"a byte behind code with no op", image("\x12") + "\x00", triage.ErrHead, 3},

	{"the first number that is no op", image("\x12"), triage.ErrOp, 2},
	{"the last number", image(pop + "\xff" + end), triage.ErrOp, 3},
	{"PUSH without n", image(end + "\x01"), triage.ErrOp, 3},
	{"JMP without n", image(pop + "\x0a"), triage.ErrOp, 3},
	{"JZ without n", image("\x0b"), triage.ErrOp, 2},
	{"CALL without n", image("\x0c"), triage.ErrOp, 2},
	{"an n in the next function", image(pop+"\x01", end), triage.ErrOp, 4},
	{"in the second function", image(end, "\x12"), triage.ErrOp, 4},
	{"two of them", image(pop+"\x12", "\x13"), triage.ErrOp, 4},
	{"behind a bad jump", image(jmp(9), "\x12"), triage.ErrOp, 5},
	{"behind a fall", image(pop, "\x12"), triage.ErrOp, 4},
	{"with a jump behind it", image("\x12" + jmp(9)), triage.ErrOp, 2},

	{"JMP to the function's end", image(jmp(2)), triage.ErrJump, 2},
	{"JMP far away", image(jmp(255)), triage.ErrJump, 2},
	{"JMP into an instruction", image(push(0) + jmp(1)), triage.ErrJump, 4},
	{"JMP into the next function", image(jmp(2), end), triage.ErrJump, 3},
	{"JZ to the function's end", image(pop + jz(4) + end), triage.ErrJump, 3},
	{"JZ into itself", image(jz(1) + end), triage.ErrJump, 2},
	{"JZ in the second function, by the first one's places", image(pop+pop+end, jz(3)+end), triage.ErrJump, 6},
	{"CALL of no function", image(call(1) + end), triage.ErrJump, 2},
	{"CALL of a number far above", image(end, call(255)+end), triage.ErrJump, 4},
	{"CALL ahead of a JMP", image(call(2)+end, jmp(7)), triage.ErrJump, 3},
	{"JMP ahead of a CALL", image(jmp(7), call(2)+end), triage.ErrJump, 3},
	{"a jump behind a fall", image(pop, jmp(7)), triage.ErrJump, 4},

	{"POP at the end", image(pop), triage.ErrFall, 2},
	{"PUSH at the end", image(end + push(0)), triage.ErrFall, 3},
	{"a PUSH whose n looks like END", image(push(0)), triage.ErrFall, 2},
	{"a PUSH whose n looks like TRAP", image(pop + push(17)), triage.ErrFall, 3},
	{"JZ at the end", image(end, jz(0)), triage.ErrFall, 4},
	{"CALL at the end", image(call(0)), triage.ErrFall, 2},
	{"two of them fall", image(end+pop, pop), triage.ErrFall, 4},
	{"only the last function", image(end, jmp(0), trap, store), triage.ErrFall, 9},
}

func TestCheck(t *testing.T) {
	for _, c := range append(goodImages, brokenImages...) {
		if code, place := triage.Check(c.image); code != c.code || place != c.place {
			t.Errorf("P2, %s: Check(%q) = %d, %d, want %d, %d", c.name, c.image, code, place, c.code, c.place)
		}
	}
}

func TestCheckKnowsAllOps(t *testing.T) {
	for op := 0; op < 256; op++ {
		code, place := triage.Check(image(string([]byte{byte(op), 0, 0, 0})))
		if good := op <= 17; good != (code == triage.OK) {
			t.Errorf("P2: op %d: Check = %d, %d", op, code, place)
		}
	}
}

func TestCheckHeadBytes(t *testing.T) {
	for n := 0; n < 256; n++ {
		code, place := triage.Check(string([]byte{byte(n)}))
		want := 0
		if n >= 1 && n <= 6 {
			want = 1
		}
		if code != triage.ErrHead || place != want {
			t.Errorf("P2: %d functions and no more: Check = %d, %d, want ErrHead, %d", n, code, place, want)
		}
		code, place = triage.Check(string([]byte{1, byte(n)}))
		want = 1
		if n >= 1 && n <= 60 {
			want = 2
		}
		if code != triage.ErrHead || place != want {
			t.Errorf("P2: a length of %d and no more: Check = %d, %d, want ErrHead, %d", n, code, place, want)
		}
	}
}

func TestExplainGoodImages(t *testing.T) {
	for _, c := range goodImages {
		if err := triage.Explain(c.image); err != nil {
			t.Errorf("P3, %s: Explain(%q) = %v, want nil", c.name, c.image, err)
		}
	}
}

func TestExplainBrokenImages(t *testing.T) {
	for _, c := range brokenImages {
		err := triage.Explain(c.image)
		if err == nil || err.Error() == "" {
			t.Errorf("P3, %s: Explain(%q) tells nothing", c.name, c.image)
		}
		if !errors.Is(err, triage.Broken) {
			t.Errorf("P3, %s: Explain(%q) = %v is not Broken", c.name, c.image, err)
		}
		var flaw *triage.Flaw
		if !errors.As(err, &flaw) {
			t.Errorf("P3, %s: Explain(%q) = %v wraps no Flaw", c.name, c.image, err)
		} else if flaw.Code != c.code || flaw.Place != c.place {
			t.Errorf("P3, %s: Explain(%q) = %+v, want %d, %d", c.name, c.image, *flaw, c.code, c.place)
		}
	}
}

func TestExplainTellsWhereInWords(t *testing.T) {
	for _, c := range []struct{ image, want string }{
		{image(end, "\x12"), "function 1: no instruction at place 4"},
		{"\x01\x00", "head and length do not fit at place 1"},
	} {
		if err := triage.Explain(c.image); err == nil || err.Error() != c.want {
			t.Errorf("Explain(%q) = %v, want %s", c.image, err, c.want)
		}
	}
}

func TestExplainAnswersNewMemory(t *testing.T) {
	var flaw *triage.Flaw
	if !errors.As(triage.Explain(image("\x12")), &flaw) {
		t.Fatal("P3: no Flaw")
	}
	*flaw = triage.Flaw{Code: 99, Place: 99}
	if code, place := triage.Check(image("\x12")); code != triage.ErrOp || place != 2 {
		t.Errorf("P1: Check hangs on an error that was answered earlier: %d, %d", code, place)
	}
}

func TestFlawByItself(t *testing.T) {
	for _, flaw := range []*triage.Flaw{nil, {}, {Code: -1, Place: -1}, {Code: triage.ErrStale, Place: 1 << 62}} {
		if flaw.Error() == "" {
			t.Errorf("P1: %+v tells nothing", flaw)
		}
		if flaw.Unwrap() != triage.Broken {
			t.Errorf("P3: %+v does not wrap Broken", flaw)
		}
	}
}
