package triage

import "slices"

// Trim picks few inputs (P7).
func Trim(image string, fuel int, inputs []string) ([]int, Errno, int) {
	s, code, place := setUp(image, fuel, 0, inputs)
	if code != OK {
		return nil, code, place
	}
	ways := make([]way, len(inputs))
	for i, input := range inputs {
		ways[i] = way{length: len(input), fresh: s.run(input).Edges}
	}
	return pick(ways), OK, 0
}

// way is what an input's run may add to those that are picked.
type way struct {
	length int   // of the input
	fresh  []int // the edges that no picked one's run has
}

func (w way) beats(other way) bool {
	if len(w.fresh) != len(other.fresh) {
		return len(w.fresh) > len(other.fresh)
	}
	return w.length < other.length
}

// pick answers the numbers of ways that have all edges, rising. A way that was picked has no fresh edges any more, so it is not picked again.
func pick(ways []way) []int {
	var picked []int
	for {
		best := way{}
		number := 0
		for i, w := range ways {
			if w.beats(best) {
				best, number = w, i
			}
		}
		if len(best.fresh) == 0 {
			slices.Sort(picked)
			return picked
		}
		picked = append(picked, number)
		for i, w := range ways {
			ways[i].fresh = lacking(w.fresh, best.fresh)
		}
	}
}

// lacking answers, as a list of its own, which of the edges are not among the others.
func lacking(edges, others []int) []int {
	var left []int
	for _, edge := range edges {
		if !slices.Contains(others, edge) {
			left = append(left, edge)
		}
	}
	return left
}
