package tithe_test

import (
	"encoding/hex"
	"slices"
	"testing"

	"tithe/api"
	"tithe/tithe"
)

func accepted(t *testing.T, what, report, proof, name string, balance uint64) {
	t.Helper()
	n, v, e := tithe.Verify([]byte(report), []byte(proof))
	if n != name || v != balance || e != api.OK {
		t.Errorf("P7: %s: Verify(%x, %x) = %q, %d, %d, want %q, %d, 0", what, report, proof, n, v, e, name, balance)
	}
}

func refused(t *testing.T, what, report, proof string, want api.Errno) {
	t.Helper()
	n, v, e := tithe.Verify([]byte(report), []byte(proof))
	if n != "" || v != 0 || e != want {
		t.Errorf("P7: %s: Verify(%x, %x) = %q, %d, %d, want nothing, 0, %d", what, report, proof, n, v, e, want)
	}
}

func fromHex(t *testing.T, s string) string {
	t.Helper()
	b, err := hex.DecodeString(s)
	if err != nil {
		t.Fatal(err)
	}
	return string(b)
}

func TestP7WrittenOut(t *testing.T) {
	one := fromHex(t, "0035fa1f0000000000000005")
	accepted(t, "one account", one, fromHex(t, "0000016100000000000000050000000000000000"), "a", 5)
	two := fromHex(t, "010451634000000000000000")
	ann := fromHex(t, "010003616e6e000000000000012c010203040506070847002a3ffffffffffffed4")
	bob := fromHex(t, "010103626f623ffffffffffffed40000000000000009975596000000000000012c")
	accepted(t, "the left one of two", two, ann, "ann", 300)
	accepted(t, "the right one of two", two, bob, "bob", most-300)
	refused(t, "a proof of another report", one, ann, api.ErrProof)
}

func TestP7HonestReports(t *testing.T) {
	for height := range api.MaxHeight + 1 {
		for count := range 1<<height + 1 {
			accounts := someAccounts(count)
			report, proofs := honest(height, accounts)
			for i, a := range accounts {
				accepted(t, "an honest report", report, proofs[i], a.name, a.balance)
			}
		}
	}
}

func TestP7ReportsLength(t *testing.T) {
	report, proof := forge(0, account{"a", 5, 1}, someMarks(2)...)
	long := report + report + report
	for n := range len(long) {
		if n != len(report) {
			refused(t, "a report too short or too long", long[:n], proof, api.ErrReport)
		}
	}
}

func TestP7ReportsHeight(t *testing.T) {
	for height := range 256 {
		report, proof := forge(0, account{"a", 5, 1}, someMarks(height)...)
		if height <= 6 {
			accepted(t, "a height up to 6", report, proof, "a", 5)
		} else {
			refused(t, "a height above 6", report, proof, api.ErrReport)
		}
	}
}

func TestP7ReportsSum(t *testing.T) {
	for _, sum := range []uint64{most + 1, most + 2, 1 << 63, 3 << 62, 1<<64 - 1} {
		report, proof := forge(0, account{"a", sum, 1})
		refused(t, "a report's sum above the most", report, proof, api.ErrReport)
	}
	report, proof := forge(0, account{"a", most, 1})
	accepted(t, "a report's sum that is the most", report, proof, "a", most)
}

func TestP7ReportIsLookedAtFirst(t *testing.T) {
	for _, proof := range []string{"", "\x00", "no proof at all"} {
		refused(t, "neither report nor proof", "", proof, api.ErrReport)
		refused(t, "neither report nor proof", "\x07"+mark{"abc", 5}.bytes(), proof, api.ErrReport)
		refused(t, "neither report nor proof", "\x00"+mark{"abc", most + 1}.bytes(), proof, api.ErrReport)
		refused(t, "a report, no proof", "\x00"+mark{"abc", most}.bytes(), proof, api.ErrProof)
	}
}

func TestP7ProofsLength(t *testing.T) {
	for height := range 7 {
		report, proof := forge(0, account{"a", 5, 1}, someMarks(height)...)
		for n := range len(proof) {
			refused(t, "a proof too short", report, proof[:n], api.ErrProof)
		}
		longer := proof
		for range 30 {
			longer += "\x00"
			refused(t, "a proof too long", report, longer, api.ErrProof)
		}
	}
}

func TestP7ProofsHeight(t *testing.T) {
	for height := range 7 {
		report, proof := forge(0, account{"a", 5, 1}, someMarks(height)...)
		for other := range 256 {
			if other == height {
				continue
			}
			refused(t, "another height's byte", report, oneByte(other)+proof[1:], api.ErrProof)
			_, whole := forge(0, account{"a", 5, 1}, someMarks(other)...)
			refused(t, "a proof of another height", report, whole, api.ErrProof)
		}
	}
}

// The way up is the same from a place and from that place + 2^height.
func TestP7Place(t *testing.T) {
	for height := range 7 {
		for place := range 256 {
			report, proof := forge(place, account{"a", 5, 1}, someMarks(height)...)
			if place < 1<<height {
				accepted(t, "a place", report, proof, "a", 5)
			} else {
				refused(t, "a place outside the tree", report, proof, api.ErrProof)
			}
		}
	}
}

func TestP7AnotherPlace(t *testing.T) {
	for place := range 64 {
		report, proof := forge(place, account{"a", 5, 1}, someMarks(6)...)
		for other := range 64 {
			if other != place {
				refused(t, "another place", report, proof[:1]+oneByte(other)+proof[2:], api.ErrProof)
			}
		}
	}
}

func TestP7NamesLength(t *testing.T) {
	long := ""
	for length := range 256 {
		for height := range 3 {
			report, proof := forge(0, account{long, 5, 1}, someMarks(height)...)
			if 1 <= length && length <= 8 {
				accepted(t, "a name", report, proof, long, 5)
			} else {
				refused(t, "a name too short or too long", report, proof, api.ErrProof)
			}
		}
		long += "n"
	}
}

func TestP7NamesBytes(t *testing.T) {
	for b := range 256 {
		for _, name := range []string{oneByte(b), "a" + oneByte(b), oneByte(b) + "sevenab"} {
			report, proof := forge(1, account{name, 5, 1}, someMarks(1)...)
			accepted(t, "a name of any bytes", report, proof, name, 5)
		}
	}
}

func TestP7BalancesAndSalts(t *testing.T) {
	for _, balance := range []uint64{0, 1, 255, 256, 1 << 32, most - 1, most} {
		for _, salt := range []uint64{0, 1, most + 1, 1<<64 - 1} {
			report, proof := forge(0, account{"a", balance, salt}, mark{"abc", 0})
			accepted(t, "a balance and a salt", report, proof, "a", balance)
		}
	}
}

// Each time the sum at the root is small again, as the sums go round.
func TestP7SumsInTheProofAboveTheMost(t *testing.T) {
	for _, great := range []uint64{most + 1, 1 << 63, 3 << 62, 1<<64 - 1} {
		small := -great
		for _, c := range [][2]uint64{{great, small}, {small, great}, {great, small + 7}, {small + 7, great}} {
			if c[0]+c[1] > most {
				t.Fatalf("%d and %d don't go round", c[0], c[1])
			}
			for place := range 2 {
				report, proof := forge(place, account{"a", c[0], 1}, mark{"abc", c[1]})
				refused(t, "a sum above the most", report, proof, api.ErrProof)
			}
		}
		for level := range 6 {
			beside := someMarks(6)
			beside[level].sum = great
			_, proof := forge(0, account{"a", 5, 1}, beside...)
			report, _ := forge(0, account{"a", 5, 1}, someMarks(6)...)
			refused(t, "a sum above the most beside the way", report, proof, api.ErrProof)
		}
	}
}

// No sum that is written is above the most, but one that is made on the way.
func TestP7SumsOnTheWayAboveTheMost(t *testing.T) {
	for height := 3; height <= 6; height++ {
		for start := range height - 2 {
			beside := make([]mark, height)
			for i := range beside {
				beside[i].digest = "abc"
			}
			for i := range 3 {
				beside[start+i].sum = most
			}
			report, proof := forge(1, account{"a", most, 1}, beside...)
			if report[4:] != eightBytes(0) {
				t.Fatalf("the sums don't go round: %x", report)
			}
			refused(t, "sums that go round", report, proof, api.ErrProof)
		}
	}
}

func TestP7SumsUpToTheMost(t *testing.T) {
	for height := 1; height <= 6; height++ {
		for level := range height {
			beside := make([]mark, height)
			for i := range beside {
				beside[i].digest = "abc"
			}
			beside[level].sum = most
			report, proof := forge(0, account{"a", 0, 1}, beside...)
			accepted(t, "the most beside the way", report, proof, "a", 0)
			beside[level].sum = most - 5
			report, proof = forge(0, account{"a", 5, 1}, beside...)
			accepted(t, "the most at the root", report, proof, "a", 5)
			beside[level].sum = most - 4
			_, proof = forge(0, account{"a", 5, 1}, beside...)
			refused(t, "one more than the most at the root", report, proof, api.ErrProof)
		}
	}
}

func TestP7Root(t *testing.T) {
	for height := range 7 {
		report, proof := forge(0, account{"a", 5, 1}, someMarks(height)...)
		for i := 1; i < len(report); i++ {
			for bit := range 8 {
				other := []byte(report)
				other[i] ^= 1 << bit
				want := api.ErrProof
				if i == 4 && bit >= 6 && !slices.Equal(other[4:], []byte(eightBytes(most))) {
					want = api.ErrReport // then it is more than the most
				}
				refused(t, "a report that isn't the root's", string(other), proof, want)
			}
		}
	}
}

func TestP7EachBitOfAProofCounts(t *testing.T) {
	for height := range 7 {
		report, proof := forge(1<<height-1, account{"name", 5, 1}, someMarks(height)...)
		for i := range len(proof) {
			for bit := range 8 {
				other := []byte(proof)
				other[i] ^= 1 << bit
				refused(t, "a bit turned", report, string(other), api.ErrProof)
			}
		}
	}
}
