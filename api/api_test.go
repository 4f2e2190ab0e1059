package api_test

import (
	"testing"

	"tithe/api"
)

func TestErrnoNumbers(t *testing.T) {
	inOrder := []api.Errno{
		api.OK, api.ErrConfig, api.ErrName, api.ErrTwice, api.ErrUnknown,
		api.ErrRange, api.ErrLeft, api.ErrFull, api.ErrReport, api.ErrProof,
	}
	for i, e := range inOrder {
		if int(e) != i {
			t.Errorf("error %d has the number %d", i, e)
		}
	}
}

func TestOtherNumbers(t *testing.T) {
	if api.Leaf != 0 || api.Node != 1 || api.Pad != 2 {
		t.Errorf("first bytes: %d, %d, %d", api.Leaf, api.Node, api.Pad)
	}
	if api.MaxHeight != 6 || api.MaxName != 8 || uint64(api.MaxSum) != 4611686018427387904 {
		t.Errorf("bounds: %d, %d, %d", api.MaxHeight, api.MaxName, uint64(api.MaxSum))
	}
	if len(api.Digest{}) != 3 {
		t.Errorf("a digest of %d bytes", len(api.Digest{}))
	}
}
