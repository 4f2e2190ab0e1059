package tithe_test

import "slices"

// How somebody who wants to cheat finds texts of a digest that is given. A
// digest's rule can be gone through backwards: from 256 numbers that end in it.

const (
	timesForth = 16777619
	timesBack  = 899433627
	lastBack   = 2781581891
)

func stepForth(x uint32, b byte) uint32 { return (x ^ uint32(b)) * timesForth }

func stepBack(x uint32, b byte) uint32 { return x*timesBack ^ uint32(b) }

// endsOf are the numbers, ahead of the digest's last step, that end in it.
func endsOf(digest string) []uint32 {
	ends := []uint32{}
	for high := range 256 {
		z := uint32(digest[0]) | uint32(digest[1])<<8 | uint32(digest[2])<<16 | uint32(high)<<24
		y := (z ^ z>>13 ^ z>>26) * lastBack
		ends = append(ends, y^y>>16)
	}
	return ends
}

// between finds three bytes that, between head and tail, make a text of that
// digest; often there are none.
func between(head, tail, digest string) (string, bool) {
	wanted := map[uint32]byte{}
	for _, x := range endsOf(digest) {
		for i := len(tail) - 1; i >= 0; i-- {
			x = stepBack(x, tail[i])
		}
		x = stepBack(x, 0)
		wanted[x>>8] = byte(x)
	}
	start := uint32(2166136261)
	for i := range len(head) {
		start = stepForth(start, head[i])
	}
	for two := range 1 << 16 {
		a, b := byte(two>>8), byte(two)
		x := stepForth(stepForth(start, a), b)
		if low, ok := wanted[x>>8]; ok {
			return string([]byte{a, b, low ^ byte(x)}), true
		}
	}
	return "", false
}

// fakeLeaf is another one's account with the digest and the balance of a leaf.
func fakeLeaf(d *dice, of account, name string) account {
	for {
		fake := account{name, of.balance, uint64(d.roll(1<<30)) << 24}
		head := "\x00" + fake.bytes()
		salt, ok := between(head[:len(head)-3], "", of.mark().digest)
		if !ok {
			continue
		}
		fake.salt += uint64(salt[0])<<16 | uint64(salt[1])<<8 | uint64(salt[2])
		if fake != of {
			return fake
		}
	}
}

// markAt is what stands on the way at a level.
func (w way) markAt(level int) mark {
	_, m := way{w.place, w.leaf, w.beside[:level]}.climb()
	return m
}

// fake is another one's way to the same root: up to the level it is made up,
// there it has another text of the same digest and sum, and from there on it
// is the same. The place must be below the same one at that level; a leaf's
// balance is always that of the leaf it stands for.
func fake(d *dice, of way, level, place int, name string, balance uint64) way {
	if level == 0 {
		return way{place, fakeLeaf(d, of.leaf, name), of.beside}
	}
	want := of.markAt(level)
	for {
		f := way{place, account{name, balance, uint64(d.roll(1 << 30))}, nil}
		for range level - 1 {
			f.beside = append(f.beside, mark{digestByWords(oneByte(d.roll(256))), 0})
		}
		here, rest := f.markAt(level-1), eightBytes(want.sum-balance)
		head, tail := "\x01"+here.bytes(), rest
		if place>>(level-1)%2 == 1 {
			head, tail = "\x01", rest+here.bytes()
		}
		digest, ok := between(head, tail, want.digest)
		if !ok {
			continue
		}
		f.beside = append(f.beside, mark{digest, want.sum - balance})
		f.beside = append(f.beside, slices.Clone(of.beside[level:])...)
		return f
	}
}
