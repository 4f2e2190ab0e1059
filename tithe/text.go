package tithe

import "tithe/api"

// How many bytes a number, and a digest with its sum, take.
const (
	numberSize = 8
	sideSize   = len(api.Digest{}) + numberSize
)

// leaf is an account as a tree has it.
type leaf struct {
	name    string
	balance uint64
	salt    uint64
}

// side is what a node's text holds of the one on its left or on its right.
type side struct {
	digest api.Digest
	sum    uint64
}

func leafSide(l leaf) side {
	return side{digest: Sum(leafText(l)), sum: l.balance}
}

func padSide(place int) side {
	return side{digest: Sum(padText(place))}
}

// nodeSide needs sums that together don't go round.
func nodeSide(left, right side) side {
	return side{digest: Sum(nodeText(left, right)), sum: left.sum + right.sum}
}

func leafText(l leaf) []byte {
	text := make([]byte, 0, 1+leafSize(l))
	text = append(text, api.Leaf)
	return appendLeaf(text, l)
}

func padText(place int) []byte {
	return []byte{api.Pad, byte(place)}
}

func nodeText(left, right side) []byte {
	text := make([]byte, 0, 1+2*sideSize)
	text = append(text, api.Node)
	text = appendSide(text, left)
	return appendSide(text, right)
}

// leafSize is how many bytes appendLeaf adds.
func leafSize(l leaf) int {
	return 1 + len(l.name) + 2*numberSize
}

// appendLeaf adds what a leaf's text and a proof have in common.
func appendLeaf(b []byte, l leaf) []byte {
	b = append(b, byte(len(l.name)))
	b = append(b, l.name...)
	b = appendNumber(b, l.balance)
	return appendNumber(b, l.salt)
}

func appendSide(b []byte, s side) []byte {
	b = append(b, s.digest[:]...)
	return appendNumber(b, s.sum)
}

func appendNumber(b []byte, n uint64) []byte {
	for shift := 56; shift >= 0; shift -= 8 {
		b = append(b, byte(n>>shift))
	}
	return b
}
