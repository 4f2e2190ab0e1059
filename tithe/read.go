package tithe

import "tithe/api"

// report is what a report's bytes say.
type report struct {
	height int
	root   side
}

// proof is what a proof's bytes say, but for the height, which is the report's.
type proof struct {
	place  int
	leaf   leaf
	beside []side // from the lowest level up
}

// proofHead is how many bytes of a proof stand ahead of the name.
const proofHead = 3

func readReport(b []byte) (report, bool) {
	if len(b) != 1+sideSize || b[0] > api.MaxHeight {
		return report{}, false
	}
	r := report{height: int(b[0]), root: readSide(b[1:])}
	return r, r.root.sum <= api.MaxSum
}

func readProof(b []byte, height int) (proof, bool) {
	if len(b) < proofHead || int(b[0]) != height {
		return proof{}, false
	}
	place, nameEnd := int(b[1]), proofHead+int(b[2])
	if place >= 1<<height || !isNameLength(int(b[2])) {
		return proof{}, false
	}
	if len(b) != nameEnd+2*numberSize+height*sideSize {
		return proof{}, false
	}
	l := leaf{
		name:    string(b[proofHead:nameEnd]),
		balance: readNumber(b[nameEnd:]),
		salt:    readNumber(b[nameEnd+numberSize:]),
	}
	p := proof{place: place, leaf: l, beside: readSides(b[nameEnd+2*numberSize:], height)}
	return p, greatestSum(p) <= api.MaxSum
}

func isNameLength(n int) bool {
	return 1 <= n && n <= api.MaxName
}

func greatestSum(p proof) uint64 {
	greatest := p.leaf.balance
	for _, s := range p.beside {
		greatest = max(greatest, s.sum)
	}
	return greatest
}

func readSides(b []byte, count int) []side {
	sides := make([]side, count)
	for i := range sides {
		sides[i] = readSide(b[i*sideSize:])
	}
	return sides
}

func readSide(b []byte) side {
	return side{digest: api.Digest{b[0], b[1], b[2]}, sum: readNumber(b[3:])}
}

func readNumber(b []byte) uint64 {
	n := uint64(0)
	for _, v := range b[:numberSize] {
		n = n<<8 | uint64(v)
	}
	return n
}
