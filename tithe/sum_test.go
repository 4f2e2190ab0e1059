package tithe_test

import (
	"encoding/hex"
	"strings"
	"testing"

	"tithe/tithe"
)

func sumOf(text string) string {
	d := tithe.Sum([]byte(text))
	return hex.EncodeToString(d[:])
}

func TestP3SumWrittenOut(t *testing.T) {
	allBytes := ""
	for i := range 256 {
		allBytes += oneByte(i)
	}
	for _, c := range []struct{ text, want string }{
		{"", "01a5b4"},
		{"a", "c74096"},
		{"\x00", "375d1c"},
		{"\x00\x00", "3fe287"},
		{strings.Repeat("\xff", 8), "1f9437"},
		{"nobody is forgotten", "f7be5c"},
		{allBytes, "b1c201"},
	} {
		if got := sumOf(c.text); got != c.want {
			t.Errorf("P3: Sum(%x) = %s, want %s", c.text, got, c.want)
		}
	}
}

func TestP3SumOfNil(t *testing.T) {
	if tithe.Sum(nil) != tithe.Sum([]byte{}) || sumOf("") != "01a5b4" {
		t.Errorf("P3: nil and no bytes: %x, %x", tithe.Sum(nil), tithe.Sum([]byte{}))
	}
}

func TestP3SumByTheDocumentsWords(t *testing.T) {
	text := ""
	for i := range 2000 {
		if got, want := sumOf(text), hex.EncodeToString([]byte(digestByWords(text))); got != want {
			t.Fatalf("P3: the digest of %d bytes is %s, want %s", i, got, want)
		}
		text += oneByte(i * i / 7)
	}
}
