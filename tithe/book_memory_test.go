package tithe_test

import (
	"bytes"
	"math"
	"testing"
	"unsafe"

	"tithe/api"
	"tithe/tithe"
)

var (
	someNames   = []string{"", "a", "b", "aa", "\x00", "c", "\xff", "eightlet", "ninebytes"}
	someNumbers = []uint64{0, 0, 1, 2, 3, 100, most / 2, most/2 + 1, most - 1, most, most + 1, 1 << 63, math.MaxUint64 - most, math.MaxUint64}
)

// step does the same to a book and to a ledger, and tells both answers.
func (d *dice) step(b *tithe.Book, l *ledger) (string, api.Errno, api.Errno) {
	name, other := someNames[d.roll(len(someNames))], someNames[d.roll(len(someNames))]
	n := someNumbers[d.roll(len(someNumbers))]
	if a := l.find(name); a != nil && d.roll(3) == 0 {
		n = a.balance + uint64(d.roll(3)) - 1
	}
	switch d.roll(7) {
	case 0:
		return "Open", b.Open(name), l.open(name)
	case 1:
		return "Close", b.Close(name), l.close(name)
	case 2:
		return "Pay", b.Pay(name, n), l.pay(name, n)
	case 3:
		return "Draw", b.Draw(name, n), l.draw(name, n)
	case 4:
		return "Move", b.Move(name, other, n), l.move(name, other, n)
	case 5:
		r, e := b.Publish()
		want, f := l.publish()
		return "Publish", sameText(r, want, e), f
	}
	p, e := b.Proof(name)
	want, f := l.proof(name)
	return "Proof", sameText(p, want, e), f
}

// sameText answers the error, or -1 if what stands beside it is something else.
func sameText(got []byte, want string, e api.Errno) api.Errno {
	if string(got) != want {
		return -1
	}
	return e
}

func sameBook(t *testing.T, b *tithe.Book, l *ledger) {
	t.Helper()
	for _, name := range someNames {
		if a := l.find(name); a != nil {
			holds(t, b, name, a.balance)
		} else {
			lacks(t, b, name)
		}
		want, e := l.proof(name)
		if p, f := b.Proof(name); string(p) != want || e != f {
			t.Errorf("P6: Proof(%q) = %x, %d, want %x, %d", name, p, f, want, e)
		}
	}
}

// Each answer, and all that the book tells after each, is what the document
// says: with an error nothing has changed.
func TestP1BookByTheDocumentsWords(t *testing.T) {
	seen := map[string]map[api.Errno]int{}
	for round := range 200 {
		d := dice(round)
		height := d.roll(4)
		b := newBook(t, height, uint64(round))
		l := &ledger{height: height, seed: uint64(round)}
		for i := range 150 {
			what, got, want := d.step(b, l)
			if got != want {
				t.Fatalf("P1: round %d, step %d: %s: %d, want %d", round, i, what, got, want)
			}
			if seen[what] == nil {
				seen[what] = map[api.Errno]int{}
			}
			seen[what][want]++
			sameBook(t, b, l)
			if t.Failed() {
				t.Fatalf("P1: round %d, behind step %d: %s", round, i, what)
			}
		}
	}
	for what, kinds := range map[string]int{"Open": 3, "Close": 3, "Pay": 3, "Draw": 3, "Move": 3, "Publish": 2, "Proof": 3} {
		if len(seen[what]) != kinds {
			t.Errorf("%s was to answer in %d ways, and answered %v", what, kinds, seen[what])
		}
	}
}

// What a book answers hangs on what was done to it alone: two books to which
// the same is done, whatever is done to others between, answer the same.
func TestP2TwoBooksAnswerTheSame(t *testing.T) {
	for round := range 50 {
		d := dice(round)
		b, c := newBook(t, 3, 5), newBook(t, 3, 5)
		l, m := &ledger{height: 3, seed: 5}, &ledger{height: 3, seed: 5}
		other := newBook(t, 3, 6)
		for range 200 {
			twin := d
			_, x, _ := d.step(b, l)
			_, y, _ := twin.step(c, m)
			if x != y {
				t.Fatalf("P2: the same done to two books: %d, %d", x, y)
			}
			twin.step(other, &ledger{})
		}
	}
}

func TestP2ReportsAndProofsAreNewMemory(t *testing.T) {
	accounts := someAccounts(3)
	b := bookOf(t, 2, 1, accounts)
	report, proofs := honest(2, withSalts(1, accounts))
	first, _ := b.Publish()
	second, _ := b.Publish()
	p, _ := b.Proof(accounts[0].name)
	q, _ := b.Proof(accounts[0].name)
	o, _ := b.Proof(accounts[1].name)
	for _, text := range [][]byte{first, p} {
		for i := range whole(text) {
			whole(text)[i] = 0xee
		}
	}
	if string(second) != report || string(q) != proofs[0] || string(o) != proofs[1] {
		t.Errorf("P2: what came out is changed: %x, %x, %x", second, q, o)
	}
	proves(t, b, accounts[0].name, proofs[0])
	proves(t, b, accounts[1].name, proofs[1])
	publishes(t, b, report)
	holds(t, b, accounts[2].name, accounts[2].balance)
}

// shaky is a string whose bytes change when those of b do.
func shaky(b []byte) string { return unsafe.String(unsafe.SliceData(b), len(b)) }

// The strings that are handed in are no more what they were behind each call.
func TestP2NamesAreNotKept(t *testing.T) {
	b := newBook(t, 1, 1)
	memory := []byte{}
	with := func(name string, call func(string) api.Errno) {
		t.Helper()
		memory = append(memory[:0], name...)
		says(t, "a call by "+name, call(shaky(memory)), api.OK)
		copy(memory, bytes.Repeat([]byte("x"), len(memory)))
	}
	for _, name := range []string{"first", "second"} {
		with(name, b.Open)
		with(name, func(s string) api.Errno { return b.Pay(s, 9) })
		with(name, func(s string) api.Errno { return b.Draw(s, 2) })
		with(name, func(s string) api.Errno { return b.Move(s, s, 1) })
		with(name, func(s string) api.Errno { _, e := b.Balance(s); return e })
		holds(t, b, name, 7)
	}
	report, proofs := honest(1, withSalts(1, []account{{name: "first", balance: 7}, {name: "second", balance: 7}}))
	publishes(t, b, report)
	with("second", func(s string) api.Errno { _, e := b.Proof(s); return e })
	proves(t, b, "first", proofs[0])
	proves(t, b, "second", proofs[1])
	with("first", func(s string) api.Errno { return b.Draw(s, 7) })
	with("first", b.Close)
	lacks(t, b, "first")
	lacks(t, b, "xxxxx")
}
