package triage

// key is how a run crashed: the kind of its fault, how many sites follow, and of each site its function and its place. That number keeps a site of zeros apart from none.
type key [2 + 2*maxDepth]int

// keyOf answers the key of a fault of that kind, of whose sites only the first depth count.
func keyOf(kind int, sites []Site, depth int) key {
	sites = sites[:min(depth, len(sites))]
	k := key{kind, len(sites)}
	for i, site := range sites {
		k[2+2*i], k[3+2*i] = site.Func, site.Place
	}
	return k
}

func (k key) kind() int { return k[0] }

func (k key) sites() []Site {
	var sites []Site
	for i := range k[1] {
		sites = append(sites, Site{Func: k[2+2*i], Place: k[3+2*i]})
	}
	return sites
}

// setting is what stays the same while many inputs are run, all within their bounds.
type setting struct {
	program
	fuel, depth int
}

// setUp reads an image once for all its runs, and holds what is handed in with it against the bounds.
func setUp(image string, fuel, depth int, inputs []string) (setting, Errno, int) {
	p, err := read(image)
	if err != nil {
		code, place := verdict(err)
		return setting{}, code, place
	}
	if fuel < 0 || fuel > maxFuel || depth < 0 || depth > maxDepth || len(inputs) > maxInputs {
		return setting{}, ErrArg, 0
	}
	for number, input := range inputs {
		if len(input) > maxInput {
			return setting{}, ErrLong, number
		}
	}
	return setting{program: p, fuel: fuel, depth: depth}, OK, 0
}

func (s *setting) run(input string) Report { return play(s.program, input, s.fuel) }

// crash answers the key of an input's run, and whether that run faults.
func (s *setting) crash(input string) (key, bool) {
	r := s.run(input)
	if r.End != endFault {
		return key{}, false
	}
	return keyOf(r.Kind, r.Sites, s.depth), true
}

// Buckets sorts crashes (P5).
func Buckets(image string, fuel int, depth int, inputs []string) ([]Bucket, Errno, int) {
	s, code, place := setUp(image, fuel, depth, inputs)
	if code != OK {
		return nil, code, place
	}
	return s.sort(inputs), OK, 0
}

// sort answers a bucket for each key, in the order of their first members.
func (s *setting) sort(inputs []string) []Bucket {
	var buckets []Bucket
	numbers := map[key]int{} // of the buckets
	for i, input := range inputs {
		k, crashed := s.crash(input)
		if !crashed {
			continue
		}
		number, known := numbers[k]
		if !known {
			number = len(buckets)
			numbers[k] = number
			buckets = append(buckets, Bucket{Kind: k.kind(), Sites: k.sites(), Rep: i})
		}
		b := &buckets[number]
		b.Members = append(b.Members, i)
		if len(input) < len(inputs[b.Rep]) {
			b.Rep = i
		}
	}
	return buckets
}
