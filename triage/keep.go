package triage

import "sync"

// Triage makes a bundle of each bucket (P10).
func Triage(image string, fuel int, depth int, inputs []string) ([]string, Errno, int) {
	s, code, place := setUp(image, fuel, depth, inputs)
	if code != OK {
		return nil, code, place
	}
	return s.keepAll(image, inputs, s.sort(inputs)), OK, 0
}

// kept is the bundle of a bucket, and the number of that bucket, as bundles get done in any order.
type kept struct {
	number int
	text   string
}

// keepAll makes the bundles of all buckets at the same time. A worker has ended only once its bundle was taken, so when the end is told no bundle is still to come: whichever case select chooses, none gets lost.
func (s *setting) keepAll(image string, inputs []string, buckets []Bucket) []string {
	done := make(chan kept)
	end := make(chan struct{})
	var workers sync.WaitGroup
	for number, b := range buckets {
		workers.Go(func() { done <- kept{number: number, text: s.keep(image, inputs[b.Rep], b)} })
	}
	go func() {
		workers.Wait()
		close(end)
	}()
	texts := make([]string, len(buckets))
	for {
		select {
		case k := <-done:
			texts[k.number] = k.text
		case <-end:
			return texts
		}
	}
}

// keep answers the bundle of a bucket, with an input of it made small.
func (s *setting) keep(image, input string, b Bucket) string {
	small := s.shrink(input, keyOf(b.Kind, b.Sites, s.depth))
	return write(Bundle{
		Image: image,
		Fuel:  s.fuel,
		Depth: s.depth,
		Input: small,
		Kind:  b.Kind,
		Sites: b.Sites,
		Edges: s.run(small).Edges,
	})
}
