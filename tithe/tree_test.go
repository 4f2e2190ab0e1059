package tithe_test

import "strconv"

// What the document says of texts and trees, written a second time, so that
// the program isn't held against itself.

const most = uint64(1) << 62

type account struct {
	name    string
	balance uint64
	salt    uint64
}

type mark struct {
	digest string
	sum    uint64
}

func digestByWords(text string) string {
	const round = 1 << 32
	x := uint64(2166136261)
	for i := range len(text) {
		x = (x ^ uint64(text[i])) * 16777619 % round
	}
	x = (x ^ x/65536) * 2246822507 % round
	x ^= x / 8192
	return string([]byte{byte(x % 256), byte(x / 256 % 256), byte(x / 65536 % 256)})
}

func eightBytes(n uint64) string {
	b := make([]byte, 8)
	for i := 7; i >= 0; i-- {
		b[i] = byte(n % 256)
		n /= 256
	}
	return string(b)
}

func oneByte(n int) string { return string([]byte{byte(n)}) }

func (m mark) bytes() string { return m.digest + eightBytes(m.sum) }

// bytes is what leaf and proof have in common.
func (a account) bytes() string {
	return oneByte(len(a.name)) + a.name + eightBytes(a.balance) + eightBytes(a.salt)
}

func (a account) mark() mark { return mark{digestByWords("\x00" + a.bytes()), a.balance} }

func padMark(place int) mark { return mark{digestByWords("\x02" + oneByte(place)), 0} }

// nodeMark lets sums go round.
func nodeMark(left, right mark) mark {
	return mark{digestByWords("\x01" + left.bytes() + right.bytes()), left.sum + right.sum}
}

func reportBytes(height int, root mark) string { return oneByte(height) + root.bytes() }

func proofBytes(height, place int, a account, beside []mark) string {
	b := oneByte(height) + oneByte(place) + a.bytes()
	for _, m := range beside {
		b += m.bytes()
	}
	return b
}

// way is what a proof says: whose leaf, where, and what stands beside the way up.
type way struct {
	place  int
	leaf   account
	beside []mark
}

func (w way) proof() string { return proofBytes(len(w.beside), w.place, w.leaf, w.beside) }

// climb answers the texts on the way, from the leaf up, and what is at the root.
func (w way) climb() (texts []string, root mark) {
	texts, here := []string{"\x00" + w.leaf.bytes()}, w.leaf.mark()
	at := w.place
	for _, m := range w.beside {
		left, right := here, m
		if at%2 == 1 {
			left, right = m, here
		}
		texts = append(texts, "\x01"+left.bytes()+right.bytes())
		here = nodeMark(left, right)
		at /= 2
	}
	return texts, here
}

// forge makes a proof of whatever it is given, and the report that fits it, so
// that nothing but what was given can be the reason for a refusal.
func forge(place int, a account, beside ...mark) (string, string) {
	w := way{place, a, beside}
	_, root := w.climb()
	return reportBytes(len(beside), root), w.proof()
}

// honest makes the report of a tree, and each account's proof.
func honest(height int, accounts []account) (string, []string) {
	report, ways := honestWays(height, accounts)
	proofs := []string{}
	for _, w := range ways {
		proofs = append(proofs, w.proof())
	}
	return report, proofs
}

func honestWays(height int, accounts []account) (string, []way) {
	level := []mark{}
	for place := range 1 << height {
		if place < len(accounts) {
			level = append(level, accounts[place].mark())
		} else {
			level = append(level, padMark(place))
		}
	}
	ways := []way{}
	for i, a := range accounts {
		ways = append(ways, way{place: i, leaf: a})
	}
	for h := range height {
		for i := range ways {
			ways[i].beside = append(ways[i].beside, level[(i>>h)^1])
		}
		above := []mark{}
		for i := 0; i < len(level); i += 2 {
			above = append(above, nodeMark(level[i], level[i+1]))
		}
		level = above
	}
	return reportBytes(height, level[0]), ways
}

// someAccounts are sorted by name, as a tree has them.
func someAccounts(count int) []account {
	accounts := []account{}
	for i := range count {
		salt := uint64(i+1) * 11400714819323198485
		accounts = append(accounts, account{"c" + strconv.Itoa(100+i), uint64(i*i*i) << (i % 40), salt})
	}
	return accounts
}

// someMarks stand beside a way, with small sums.
func someMarks(count int) []mark {
	marks := []mark{}
	for i := range count {
		marks = append(marks, mark{digestByWords("beside" + oneByte(i)), uint64(10 * i)})
	}
	return marks
}
