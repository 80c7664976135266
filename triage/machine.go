package triage

import "slices"

// machine is a run under way; its Site is that of the instruction that is the next to be carried out, or that faulted.
type machine struct {
	Site
	program
	input string // what is left of it
	stack []byte
	calls []Site // not gone back from, the first one first
	cells [maxCells]byte
	edges [2 * maxImage]bool
	ended bool
}

// Run runs an image (P4).
func Run(image string, input string, fuel int) (Report, Errno, int) {
	p, err := read(image)
	if err != nil {
		code, place := verdict(err)
		return Report{}, code, place
	}
	if len(input) > maxInput {
		return Report{}, ErrLong, 0
	}
	if fuel < 0 || fuel > maxFuel {
		return Report{}, ErrArg, 0
	}
	return play(p, input, fuel), OK, 0
}

// play runs a program that was read, with an input and fuel that are within their bounds.
func play(p program, input string, fuel int) Report {
	m := machine{program: p, input: input}
	m.Place = p.starts[0]
	r := Report{End: endFuel, Top: -1}
	for r.End == endFuel && r.Steps < fuel {
		kind := m.step()
		r.Steps++
		if kind != 0 {
			r.End = endFault
			r.blame(m.Site, kind)
			r.Sites = m.pending()
		} else if m.ended {
			r.End = endDone
			r.Top = m.top()
		}
	}
	r.Edges = m.passed()
	return r
}

// step carries out one instruction, and answers the kind of its fault, or 0.
func (m *machine) step() int {
	now := m.code[m.Place]
	if len(m.stack) < now.takes {
		return kindUnder
	}
	kind := 0
	next := m.behind(m.Site)
	switch now.op {
	case opEnd:
		next = m.goBack()
	case opPop:
		m.pop()
	case opDup:
		now.n = m.stack[len(m.stack)-1]
		fallthrough
	case opPush:
		kind = m.push(now.n)
	case opAdd, opSub, opMul, opDiv, opEq, opLt:
		kind = m.reckon(now.op)
	case opJz:
		if m.pop() != 0 {
			m.edges[m.edge(false)] = true
			break
		}
		fallthrough
	case opJmp:
		m.edges[m.edge(true)] = true
		next.Place = m.starts[m.Func] + int(now.n)
	case opCall:
		if len(m.calls) == maxCalls {
			return kindDeep
		}
		m.calls = append(m.calls, m.Site)
		m.edges[m.edge(true)] = true
		next = Site{Func: int(now.n), Place: m.starts[now.n]}
	case opIn:
		kind = m.push(m.nextByte())
	case opMore:
		kind = m.push(flag(m.input != ""))
	case opLoad, opStore:
		kind = m.reach(now.op)
	case opTrap:
		kind = kindTrap
	}
	if kind == 0 {
		m.Site = next
	}
	return kind
}

// reckon carries out an op that makes one number of two.
func (m *machine) reckon(op byte) int {
	b, a := m.pop(), m.pop()
	switch op {
	case opSub:
		b = -b
		fallthrough
	case opAdd:
		return m.push(a + b)
	case opMul:
		return m.push(a * b)
	case opEq:
		return m.push(flag(a == b))
	case opLt:
		return m.push(flag(a < b))
	}
	if b == 0 {
		return kindZero
	}
	return m.push(a / b)
}

// reach carries out an op that goes to a cell.
func (m *machine) reach(op byte) int {
	cell := m.pop()
	if cell >= maxCells {
		return kindWild
	}
	if op == opLoad {
		return m.push(m.cells[cell])
	}
	m.cells[cell] = m.pop()
	return 0
}

func (m *machine) push(n byte) int {
	if len(m.stack) == maxStack {
		return kindOver
	}
	m.stack = append(m.stack, n)
	return 0
}

// pop is called only where the number of what an op takes was held against the stack.
func (m *machine) pop() byte {
	last := len(m.stack) - 1
	n := m.stack[last]
	m.stack = m.stack[:last]
	return n
}

// top answers the number on top of the stack, or -1.
func (m *machine) top() int {
	if len(m.stack) == 0 {
		return -1
	}
	return int(m.stack[len(m.stack)-1])
}

// nextByte answers the next byte of the input, or 0.
func (m *machine) nextByte() byte {
	if m.input == "" {
		return 0
	}
	first := m.input[0]
	m.input = m.input[1:]
	return first
}

// behind answers the site behind the instruction at a site.
func (m *machine) behind(at Site) Site {
	at.Place += m.code[at.Place].size
	return at
}

// goBack answers the site behind the last call; where there is none, the run has ended and stays.
func (m *machine) goBack() Site {
	if len(m.calls) == 0 {
		m.ended = true
		return m.Site
	}
	last := len(m.calls) - 1
	call := m.calls[last]
	m.calls = m.calls[:last]
	return m.behind(call)
}

// pending answers the calls that were not gone back from, the last one first.
func (m *machine) pending() []Site {
	sites := slices.Clone(m.calls)
	slices.Reverse(sites)
	return sites
}

// passed answers the numbers of the edges that the run passed, rising.
func (m *machine) passed() []int {
	var edges []int
	for edge, was := range m.edges {
		if was {
			edges = append(edges, edge)
		}
	}
	return edges
}

func flag(holds bool) byte {
	if holds {
		return 1
	}
	return 0
}
