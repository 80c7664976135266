package triage

// The ops, by the numbers of the document's table.
const (
	opEnd = iota
	opPush
	opPop
	opDup
	opAdd
	opSub
	opMul
	opDiv
	opEq
	opLt
	opJmp
	opJz
	opCall
	opIn
	opMore
	opLoad
	opStore
	opTrap
)

// trait is what must be known of an op ahead of carrying it out.
type trait struct {
	takes int // off the stack
	size  int // in bytes
}

var traits = [...]trait{
	opEnd:   {takes: 0, size: 1},
	opPush:  {takes: 0, size: 2},
	opPop:   {takes: 1, size: 1},
	opDup:   {takes: 1, size: 1},
	opAdd:   {takes: 2, size: 1},
	opSub:   {takes: 2, size: 1},
	opMul:   {takes: 2, size: 1},
	opDiv:   {takes: 2, size: 1},
	opEq:    {takes: 2, size: 1},
	opLt:    {takes: 2, size: 1},
	opJmp:   {takes: 0, size: 2},
	opJz:    {takes: 1, size: 2},
	opCall:  {takes: 0, size: 2},
	opIn:    {takes: 0, size: 1},
	opMore:  {takes: 0, size: 1},
	opLoad:  {takes: 1, size: 1},
	opStore: {takes: 2, size: 1},
	opTrap:  {takes: 0, size: 1},
}

// instruction is one of a function; a trait of size 0 says that none begins at its place.
type instruction struct {
	trait
	op, n byte
}

// program is an image that was read.
type program struct {
	starts []int         // the functions' first places, and the one behind the last function
	code   []instruction // by place
}

// Check tells whether a text is an image (P2).
func Check(image string) (Errno, int) { return verdict(Explain(image)) }

// Explain tells what is wrong with an image (P3).
func Explain(image string) error {
	_, err := read(image)
	return err
}

// read goes through all functions once for each kind of flaw, as a kind that is named earlier in the document comes ahead of a later one at an earlier place.
func read(image string) (program, error) {
	starts, err := layOut(image)
	if err != nil {
		return program{}, err
	}
	p := program{starts: starts, code: make([]instruction, len(image))}
	decode := func(f int) error { return p.decode(image, f) }
	for _, look := range []func(f int) error{decode, p.checkTargets, p.checkLast} {
		for f := range p.functions() {
			if flaw := look(f); flaw != nil {
				return program{}, &inFunction{number: f, flaw: flaw}
			}
		}
	}
	return p, nil
}

// layOut reads the head of an image, and answers where its functions begin, and where the last one ends.
func layOut(image string) ([]int, error) {
	if len(image) > maxImage {
		return nil, &Flaw{Code: ErrLong}
	}
	if image == "" {
		return nil, &Flaw{Code: ErrHead}
	}
	count := int(image[0])
	if count < 1 || count > maxFuncs {
		return nil, &Flaw{Code: ErrHead}
	}
	end := 1 + count
	starts := []int{end}
	for place := 1; place <= count; place++ {
		if place == len(image) {
			return nil, &Flaw{Code: ErrHead, Place: place}
		}
		length := int(image[place])
		if length < 1 || length > maxCode {
			return nil, &Flaw{Code: ErrHead, Place: place}
		}
		end += length
		starts = append(starts, end)
	}
	if len(image) != end {
		return nil, &Flaw{Code: ErrHead, Place: min(len(image), end)}
	}
	return starts, nil
}

// functions answers how many there are.
func (p *program) functions() int { return len(p.starts) - 1 }

// decode reads the instructions of function f.
func (p *program) decode(image string, f int) error {
	end := p.starts[f+1]
	for place := p.starts[f]; place < end; place += p.code[place].size {
		op := image[place]
		if int(op) >= len(traits) || place+traits[op].size > end {
			return &Flaw{Code: ErrOp, Place: place}
		}
		p.code[place] = instruction{trait: traits[op], op: op}
		if traits[op].size == 2 {
			p.code[place].n = image[place+1]
		}
	}
	return nil
}

// checkTargets looks at where the jumps and calls of function f lead.
func (p *program) checkTargets(f int) error {
	for place := p.starts[f]; place < p.starts[f+1]; place += p.code[place].size {
		good := true
		switch now := p.code[place]; now.op {
		case opJmp, opJz:
			good = p.begins(f, int(now.n))
		case opCall:
			good = int(now.n) < p.functions()
		}
		if !good {
			return &Flaw{Code: ErrJump, Place: place}
		}
	}
	return nil
}

// begins tells whether an instruction begins n places behind the first one of function f.
func (p *program) begins(f, n int) bool {
	place := p.starts[f] + n
	return place < p.starts[f+1] && p.code[place].size > 0
}

// checkLast looks at whether function f can go on behind its end.
func (p *program) checkLast(f int) error {
	last := p.starts[f]
	for last+p.code[last].size < p.starts[f+1] {
		last += p.code[last].size
	}
	switch p.code[last].op {
	case opEnd, opJmp, opTrap:
		return nil
	}
	return &Flaw{Code: ErrFall, Place: last}
}
