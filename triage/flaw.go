package triage

import (
	"errors"
	"strconv"
)

// Broken is what every flaw of an image is.
var Broken = errors.New("triage: a broken image")

// Flaw is what is wrong with an image, and where.
type Flaw struct {
	Code  Errno
	Place int
}

// Error tells the flaw.
func (f *Flaw) Error() string {
	if f == nil {
		return "no flaw"
	}
	return f.Code.reason() + " at place " + strconv.Itoa(f.Place)
}

// Unwrap answers what the flaw is one of.
func (f *Flaw) Unwrap() error { return Broken }

// inFunction says in which function a flaw lies.
type inFunction struct {
	number int
	flaw   error
}

func (e *inFunction) Error() string {
	return "function " + strconv.Itoa(e.number) + ": " + e.flaw.Error()
}

func (e *inFunction) Unwrap() error { return e.flaw }

func (e Errno) reason() string {
	switch e {
	case ErrLong:
		return "more bytes than an image may have"
	case ErrHead:
		return "head and length do not fit"
	case ErrOp:
		return "no instruction"
	case ErrJump:
		return "a jump or call to where nothing begins"
	case ErrFall:
		return "a function that goes on behind its end"
	}
	return "error " + strconv.Itoa(int(e))
}

// verdict answers the code and place of the flaw that an error wraps.
func verdict(err error) (Errno, int) {
	var flaw *Flaw
	if errors.Is(err, Broken) && errors.As(err, &flaw) {
		return flaw.Code, flaw.Place
	}
	return OK, 0
}
