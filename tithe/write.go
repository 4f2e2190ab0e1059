package tithe

func writeReport(r report) []byte {
	b := make([]byte, 0, 1+sideSize)
	b = append(b, byte(r.height))
	return appendSide(b, r.root)
}

func writeProof(p proof) []byte {
	height := len(p.beside)
	b := make([]byte, 0, 2+leafSize(p.leaf)+height*sideSize)
	b = append(b, byte(height), byte(p.place))
	b = appendLeaf(b, p.leaf)
	for _, s := range p.beside {
		b = appendSide(b, s)
	}
	return b
}
