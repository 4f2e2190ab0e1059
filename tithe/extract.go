package tithe

import (
	"bytes"
	"slices"
)

// texts has, of one place, the text of the first proof that goes through it,
// and the first one that is not the same.
type texts struct {
	first []byte
	other []byte
}

func (t *texts) note(text []byte) {
	if t.first == nil {
		t.first = text
	} else if t.other == nil && !bytes.Equal(t.first, text) {
		t.other = text
	}
}

// places has those of all levels, in the order in which they are looked at:
// the root is 1, and below i are 2i and 2i+1.
type places []texts

// follow notes the texts on a proof's way; its leaf is at the place at.
func (all places) follow(p proof, at int) {
	all[at].note(leafText(p.leaf))
	up := climber{step: func(place int, here, beside side) (side, bool) {
		at /= 2
		all[at].note(nodeText(inOrder(place, here, beside)))
		return join(place, here, beside)
	}}
	up.climb(p)
}

// twoTexts needs proofs that one report accepts: only then are its answers of
// one digest, as above the first place with two texts all texts are the same.
func twoTexts(proofs []proof, height int) ([]byte, []byte) {
	all := make(places, 2<<height)
	for _, p := range proofs {
		all.follow(p, 1<<height+p.place)
	}
	for _, t := range all {
		if t.other != nil {
			return t.first, t.other
		}
	}
	return nil, nil
}

func nameTwice(proofs []proof) bool {
	names := make([]string, len(proofs))
	for i, p := range proofs {
		names[i] = p.leaf.name
	}
	slices.Sort(names)
	return len(slices.Compact(names)) < len(proofs)
}
