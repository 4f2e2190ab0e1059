package tithe_test

import (
	"math"
	"slices"
	"strings"
	"testing"

	"tithe/api"
	"tithe/tithe"
)

func TestP6SaltsAreASplitmix(t *testing.T) {
	b := bookOf(t, 2, 0, []account{{name: "a"}, {name: "b"}, {name: "c"}, {name: "d"}})
	if _, e := b.Publish(); e != api.OK {
		t.Fatalf("P6: Publish: error %d", e)
	}
	for place, want := range []string{"e220a8397b1dcdaf", "6e789e6aa1b965f4", "06c45d188009454f", "f88bb8a8724c81ec"} {
		p, _ := b.Proof(string(rune('a' + place)))
		if len(p) < 20 || string(p[12:20]) != fromHex(t, want) {
			t.Errorf("P6: the salt of place %d in %x is not %s", place, p, want)
		}
	}
}

func TestP6WrittenOut(t *testing.T) {
	b := bookOf(t, 0, 0, []account{{name: "a", balance: 5}})
	publishes(t, b, fromHex(t, "00751ec90000000000000005"))
	proves(t, b, "a", fromHex(t, "000001610000000000000005e220a8397b1dcdaf"))

	b = bookOf(t, 2, 42, []account{{name: "bob", balance: 300}, {name: "ann", balance: 7}, {name: "an"}})
	publishes(t, b, fromHex(t, "02c2b97c0000000000000133"))
	proves(t, b, "an", fromHex(t, "020002616e0000000000000000bdd732262feb6e951c636e000000000000000741314b000000000000012c"))
	proves(t, b, "ann", fromHex(t, "020103616e6e000000000000000728efe333b266f1032f1f6f000000000000000041314b000000000000012c"))
	proves(t, b, "bob", fromHex(t, "020203626f62000000000000012c47526757130f9f5266281e000000000000000059d8370000000000000007"))

	b = bookOf(t, 1, math.MaxUint64, []account{{name: "\xff", balance: most / 2}, {name: "\x00", balance: most / 2}})
	publishes(t, b, fromHex(t, "012989624000000000000000"))
	proves(t, b, "\x00", fromHex(t, "010001002000000000000000e4d971771b652c201422ef2000000000000000"))
	proves(t, b, "\xff", fromHex(t, "010101ff2000000000000000e99ff867dbf682c9d539fc2000000000000000"))
}

func TestP6Nobody(t *testing.T) {
	publishes(t, newBook(t, 0, 0), fromHex(t, "001997ad0000000000000000"))
	publishes(t, newBook(t, 6, 1), fromHex(t, "0671fc0b0000000000000000"))
	for height := range 7 {
		b := newBook(t, height, 9)
		report, _ := honest(height, nil)
		publishes(t, b, report)
		provesNot(t, b, "a", api.ErrUnknown)
		provesNot(t, b, "", api.ErrUnknown)
	}
}

// Each height with each number of accounts, up to as many as there are places.
func TestP6AllSizes(t *testing.T) {
	for height := range 7 {
		for count := range 1<<height + 1 {
			seed := uint64(height*100 + count)
			accounts := someAccounts(count)
			slices.Reverse(accounts)
			b := bookOf(t, height, seed, accounts)
			sorted := withSalts(seed, accounts)
			report, proofs := honest(height, sorted)
			publishes(t, b, report)
			for i, a := range sorted {
				proves(t, b, a.name, proofs[i])
				accepted(t, "P9: an honest report", report, proofs[i], a.name, a.balance)
			}
		}
	}
}

func TestP6OrderOfNames(t *testing.T) {
	names := []string{"\x00", "\x00\x00", "\x00a", "A", "Z", "a", "a\x00", "aa", "aaaaaaa", "aaaaaaaa", "ab", "b", "z", "\x7f", "\x80", "é", "\xff", "\xff\x00", "\xff\xff"}
	d := dice(4)
	for range 50 {
		b := newBook(t, 5, 3)
		accounts := []account{}
		for i, name := range names {
			accounts = append(accounts, account{name, uint64(i), saltByWords(3, i)})
		}
		shuffled := slices.Clone(names)
		for i := range shuffled {
			j := i + d.roll(len(shuffled)-i)
			shuffled[i], shuffled[j] = shuffled[j], shuffled[i]
			says(t, "Open", b.Open(shuffled[i]), api.OK)
			says(t, "Pay", b.Pay(shuffled[i], uint64(slices.Index(names, shuffled[i]))), api.OK)
		}
		report, proofs := honest(5, accounts)
		publishes(t, b, report)
		for i, name := range names {
			proves(t, b, name, proofs[i])
		}
	}
}

func TestP6Full(t *testing.T) {
	for height := range 7 {
		accounts := someAccounts(1 << height)
		b := bookOf(t, height, 1, accounts)
		report, proofs := honest(height, withSalts(1, accounts))
		for _, extra := range []string{"more", "mooore"} {
			says(t, "Open", b.Open(extra), api.OK)
			if r, e := b.Publish(); len(r) != 0 || e != api.ErrFull {
				t.Errorf("P6: Publish of too many at height %d: %x, %d", height, r, e)
			}
			provesNot(t, b, accounts[0].name, api.ErrReport)
		}
		says(t, "Close", b.Close("more"), api.OK)
		says(t, "Close", b.Close("mooore"), api.OK)
		publishes(t, b, report)
		says(t, "Open", b.Open("later"), api.OK)
		if r, e := b.Publish(); len(r) != 0 || e != api.ErrFull {
			t.Errorf("P6: Publish of too many at height %d: %x, %d", height, r, e)
		}
		proves(t, b, accounts[0].name, proofs[0])
		provesNot(t, b, "later", api.ErrUnknown)
	}
}

func TestP6TheMost(t *testing.T) {
	for height := 1; height < 7; height++ {
		accounts := []account{{name: "a", balance: most - 3}, {name: "b", balance: 3}}
		report, proofs := honest(height, withSalts(1, accounts))
		b := bookOf(t, height, 1, accounts)
		publishes(t, b, report)
		proves(t, b, "a", proofs[0])
		accepted(t, "P9: the most", report, proofs[0], "a", most-3)
	}
}

func TestP6ProofAheadOfAReport(t *testing.T) {
	b := bookOf(t, 2, 1, []account{{name: "a", balance: 5}})
	for _, name := range []string{"", "a", "b", "a name too long"} {
		provesNot(t, b, name, api.ErrReport)
	}
}

// What the book goes on to do is not in the last report.
func TestP6ProofsAreAsTheReportWas(t *testing.T) {
	accounts := []account{{name: "a", balance: 5}, {name: "b", balance: 7}, {name: "c"}}
	b := bookOf(t, 2, 1, accounts)
	report, proofs := honest(2, withSalts(1, accounts))
	publishes(t, b, report)
	check := func() {
		t.Helper()
		for i, a := range accounts {
			proves(t, b, a.name, proofs[i])
		}
		provesNot(t, b, "0", api.ErrUnknown)
		provesNot(t, b, "", api.ErrUnknown)
		provesNot(t, b, strings.Repeat("n", 9), api.ErrUnknown)
	}
	check()
	for _, e := range []api.Errno{b.Open("0"), b.Pay("0", 9), b.Move("0", "a", 4), b.Draw("b", 7), b.Close("b"), b.Close("c"), b.Open("c"), b.Pay("c", 1)} {
		says(t, "what the book goes on to do", e, api.OK)
		check()
	}
	now := []account{{name: "0", balance: 5}, {name: "a", balance: 9}, {name: "c", balance: 1}}
	report, proofs = honest(2, withSalts(1, now))
	publishes(t, b, report)
	for i, a := range now {
		proves(t, b, a.name, proofs[i])
	}
	provesNot(t, b, "b", api.ErrUnknown)
}

func TestP6PublishAgain(t *testing.T) {
	b := bookOf(t, 1, 8, []account{{name: "a", balance: 5}})
	report, proofs := honest(1, withSalts(8, []account{{name: "a", balance: 5}}))
	for range 3 {
		publishes(t, b, report)
		proves(t, b, "a", proofs[0])
	}
}

// A seed's salts go by place, not by account or by how often was published.
func TestP6Seeds(t *testing.T) {
	for _, seed := range []uint64{0, 1, 2, 1 << 32, 1 << 63, math.MaxUint64, 7046029254386353131} {
		accounts := someAccounts(64)
		b := bookOf(t, 6, seed, accounts)
		report, proofs := honest(6, withSalts(seed, accounts))
		publishes(t, b, report)
		proves(t, b, accounts[63].name, proofs[63])
		says(t, "Close", b.Close(accounts[0].name), api.OK)
		report, proofs = honest(6, withSalts(seed, accounts[1:]))
		publishes(t, b, report)
		proves(t, b, accounts[63].name, proofs[62])
	}
}

func TestP9HonestProofs(t *testing.T) {
	b := newBook(t, 6, 77)
	d := dice(5)
	want := map[string]uint64{}
	for i := range 64 {
		name := oneByte(i) + strings.Repeat("n", i%8)
		says(t, "Open", b.Open(name), api.OK)
		want[name] = uint64(d.roll(1 << 30))
		says(t, "Pay", b.Pay(name, want[name]), api.OK)
	}
	r, e := b.Publish()
	says(t, "Publish", e, api.OK)
	for name, balance := range want {
		p, e := b.Proof(name)
		says(t, "Proof", e, api.OK)
		if n, v, e := tithe.Verify(r, p); n != name || v != balance || e != api.OK {
			t.Errorf("P9: Verify of %q: %q, %d, %d", name, n, v, e)
		}
	}
}
