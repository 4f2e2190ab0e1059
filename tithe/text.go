package tithe

import "tithe/api"

// How many bytes a number, and a digest with its sum, take.
const (
	numberSize = 8
	sideSize   = len(api.Digest{}) + numberSize
)

// side is what a node's text holds of the one on its left or on its right.
type side struct {
	digest api.Digest
	sum    uint64
}

func leafText(name string, balance, salt uint64) []byte {
	text := make([]byte, 0, 2+len(name)+2*numberSize)
	text = append(text, api.Leaf, byte(len(name)))
	text = append(text, name...)
	text = appendNumber(text, balance)
	return appendNumber(text, salt)
}

func nodeText(left, right side) []byte {
	text := make([]byte, 0, 1+2*sideSize)
	text = append(text, api.Node)
	text = appendSide(text, left)
	return appendSide(text, right)
}

func appendSide(b []byte, s side) []byte {
	b = append(b, s.digest[:]...)
	return appendNumber(b, s.sum)
}

func appendNumber(b []byte, n uint64) []byte {
	for shift := 56; shift >= 0; shift -= 8 {
		b = append(b, byte(n>>shift))
	}
	return b
}
