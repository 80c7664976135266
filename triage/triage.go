// Package triage: crashes of small programs, sorted, shrunk, and kept: see DOC.md.
package triage

// Errno is what a call answers: OK or the reason for a refusal.
type Errno int

const (
	OK        Errno = 0
	ErrLong   Errno = 1 // above a bound
	ErrHead   Errno = 2 // no image, by its head
	ErrOp     Errno = 3 // no instruction
	ErrJump   Errno = 4 // to where there is no instruction
	ErrFall   Errno = 5 // a function that goes on behind its end
	ErrArg    Errno = 6 // a number that may not be
	ErrCalm   Errno = 7 // it does not fault
	ErrBundle Errno = 8 // no bundle
	ErrStale  Errno = 9 // a bundle that tells another run
)

// Bounds that the document sets.
const (
	maxImage  = 200
	maxFuncs  = 6
	maxCode   = 60
	maxInput  = 24
	maxInputs = 12
	maxFuel   = 2000
	maxDepth  = 6
	maxStack  = 16
	maxCalls  = 8
	maxCells  = 16
)

// Kinds of faults; 0 stands for none.
const (
	kindUnder = iota + 1
	kindOver
	kindZero
	kindWild
	kindTrap
	kindDeep
)

// How a run came to its end.
const (
	endDone = iota
	endFault
	endFuel
)

// Site is a place in a function.
type Site struct{ Func, Place int }

// edge answers the number of the edge that leads off from the site: one that goes elsewhere is odd, one that goes straight on is even.
func (s Site) edge(elsewhere bool) int {
	if elsewhere {
		return 2*s.Place + 1
	}
	return 2 * s.Place
}

// Fault is where a run faulted, and how.
type Fault struct {
	Site
	Kind int
}

// blame lays down what faulted, and how.
func (f *Fault) blame(at Site, kind int) {
	f.Site = at
	f.Kind = kind
}

// Report tells of a run.
type Report struct {
	Fault
	End   int
	Sites []Site
	Edges []int
	Steps int
	Top   int
}

// Bucket is the crashes of one key.
type Bucket struct {
	Kind    int
	Sites   []Site
	Members []int
	Rep     int
}

// Bundle is a crash that can be played again.
type Bundle struct {
	Image string
	Fuel  int
	Depth int
	Input string
	Kind  int
	Sites []Site
	Edges []int
}
