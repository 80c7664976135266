package triage

import "strings"

// Shrink makes an input smaller (P6).
func Shrink(image string, fuel int, depth int, input string) (string, Errno, int) {
	s, code, place := setUp(image, fuel, depth, []string{input})
	if code != OK {
		return "", code, place
	}
	want, crashed := s.crash(input)
	if !crashed {
		return "", ErrCalm, 0
	}
	return s.shrink(input, want), OK, 0
}

// shrink goes over a text till a whole round finds nothing to leave out: what a round leaves out may make room for more at a byte that it has passed. It ends, as each round but the last leaves fewer bytes, or fewer that are not 0.
func (s *setting) shrink(text string, want key) string {
	for {
		smaller := s.round(text, want)
		if smaller == text {
			return strings.Clone(text)
		}
		text = smaller
	}
}

// round takes out each byte that the key does not hang on, else turns it into 0 if that may be. It begins with the last one, so that what is taken out moves none of those to come.
func (s *setting) round(text string, want key) string {
	for i := len(text) - 1; i >= 0; i-- {
		if out := without(text, i); s.crashesSo(out, want) {
			text = out
		} else if blank := blanked(text, i); blank != text && s.crashesSo(blank, want) {
			text = blank
		}
	}
	return text
}

func (s *setting) crashesSo(input string, want key) bool {
	got, crashed := s.crash(input)
	return crashed && got == want
}

func without(text string, i int) string { return text[:i] + text[i+1:] }

func blanked(text string, i int) string { return text[:i] + "\x00" + text[i+1:] }
