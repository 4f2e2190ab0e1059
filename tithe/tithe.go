// Package tithe: what somebody keeps for others, shown: see DOC.md.
package tithe

import "tithe/api"

// Sum digests bytes (P3).
func Sum(b []byte) api.Digest {
	x := uint32(2166136261)
	for _, v := range b {
		x = (x ^ uint32(v)) * 16777619
	}
	x = (x ^ x/65536) * 2246822507
	x ^= x / 8192
	return api.Digest{byte(x), byte(x >> 8), byte(x >> 16)}
}

// Verify looks at a proof by a report: whose account, and how much is in it (P7).
func Verify(report []byte, proof []byte) (string, uint64, api.Errno) {
	r, ok := readReport(report)
	if !ok {
		return "", 0, api.ErrReport
	}
	p, ok := readAccepted(r, proof)
	if !ok {
		return "", 0, api.ErrProof
	}
	return p.leaf.name, p.leaf.balance, api.OK
}

// Extract looks at proofs together: two texts of one digest, if they can't all be true (P8).
func Extract(report []byte, proofs [][]byte) ([]byte, []byte, api.Errno) {
	r, ok := readReport(report)
	if !ok {
		return nil, nil, api.ErrReport
	}
	accepted, ok := readAllAccepted(r, proofs)
	if !ok {
		return nil, nil, api.ErrProof
	}
	if nameTwice(accepted) {
		return nil, nil, api.ErrTwice
	}
	first, other := twoTexts(accepted, r.height)
	return first, other, api.OK
}
