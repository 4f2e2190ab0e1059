package tithe

// climber goes up a proof's way, from its leaf to the root.
type climber struct {
	// step makes, of the one at a place and the one that stands beside it, the
	// one above them; it answers false where the way must not go on.
	step func(place int, here, beside side) (side, bool)
}

// climb answers what stands at the root, and whether the way led there.
func (c climber) climb(p proof) (side, bool) {
	here := leafSide(p.leaf)
	place, ok := p.place, true
	for _, beside := range p.beside {
		here, ok = c.step(place, here, beside)
		if !ok {
			return side{}, false
		}
		place /= 2
	}
	return here, true
}

// inOrder answers the left and the right one: the left one is at an even place.
func inOrder(place int, here, beside side) (side, side) {
	if place%2 == 0 {
		return here, beside
	}
	return beside, here
}

// join answers false if both sums together are more than MaxSum.
func join(place int, here, beside side) (side, bool) {
	if _, ok := add(here.sum, beside.sum); !ok {
		return side{}, false
	}
	return nodeSide(inOrder(place, here, beside)), true
}

func accepts(r report, p proof) bool {
	root, ok := climber{step: join}.climb(p)
	return ok && root.digest == r.root.digest && root.sum == r.root.sum
}

// readAccepted answers false if the bytes are no proof, or none of this report.
func readAccepted(r report, b []byte) (proof, bool) {
	p, ok := readProof(b, r.height)
	if !ok || !accepts(r, p) {
		return proof{}, false
	}
	return p, true
}

func readAllAccepted(r report, proofs [][]byte) ([]proof, bool) {
	all := []proof{}
	for _, b := range proofs {
		p, ok := readAccepted(r, b)
		if !ok {
			return nil, false
		}
		all = append(all, p)
	}
	return all, true
}
