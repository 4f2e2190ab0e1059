package tithe_test

import (
	"bytes"
	"testing"

	"tithe/api"
	"tithe/tithe"
)

// dice is a rule that looks like chance, the same each time.
type dice uint64

func (d *dice) roll(below int) int {
	*d = *d*6364136223846793005 + 1442695040888963407
	return int(uint64(*d>>33) % uint64(below))
}

// spoil changes some bytes, cuts some off, or adds some.
func (d *dice) spoil(text string) []byte {
	b := []byte(text)
	for range d.roll(4) {
		if len(b) > 0 {
			b[d.roll(len(b))] = byte(d.roll(256))
		}
	}
	switch d.roll(6) {
	case 0:
		b = b[:d.roll(len(b)+1)]
	case 1:
		b = append(b, make([]byte, d.roll(20))...)
	}
	return b
}

// withRoom has the same bytes, and behind them room that is filled.
func withRoom(b []byte) []byte {
	all := append(bytes.Clone(b), "room that is not the call's"...)
	return all[:len(b)]
}

func whole(b []byte) []byte { return b[:cap(b)] }

func isReport(b []byte) bool {
	if len(b) != 12 || b[0] > 6 {
		return false
	}
	sum := uint64(0)
	for _, v := range b[4:] {
		sum = sum*256 + uint64(v)
	}
	return sum <= most
}

func TestP1VerifyOfAnything(t *testing.T) {
	d := dice(1)
	seen := map[api.Errno]int{}
	for range 100000 {
		height := d.roll(8)
		report, proof := forge(d.roll(1<<height), account{"some one"[:d.roll(9)], uint64(d.roll(9)), 1}, someMarks(height)...)
		r, p := d.spoil(report), d.spoil(proof)
		name, balance, e := tithe.Verify(r, p)
		seen[e]++
		if e != api.OK && (name != "" || balance != 0) {
			t.Fatalf("P1: Verify(%x, %x): beside the error %d stand %q, %d", r, p, e, name, balance)
		}
		if (e == api.ErrReport) == isReport(r) {
			t.Fatalf("P1: Verify(%x, %x): the error %d is not the one named first", r, p, e)
		}
	}
	if seen[api.OK] == 0 || seen[api.ErrReport] == 0 || seen[api.ErrProof] == 0 || len(seen) != 3 {
		t.Errorf("P1: how often which answer: %v", seen)
	}
}

func TestP1NilAndShort(t *testing.T) {
	report, proof := forge(0, account{"a", 5, 1})
	texts := [][]byte{nil, {}, []byte(report), []byte(proof)}
	for b := range 256 {
		texts = append(texts, []byte{byte(b)}, []byte{0, byte(b)}, []byte{0, 0, byte(b)}, bytes.Repeat([]byte{byte(b)}, 12))
	}
	for _, r := range texts {
		tithe.Sum(r)
		for _, p := range texts {
			name, balance, e := tithe.Verify(r, p)
			fits := string(r) == report && string(p) == proof
			if fits != (e == api.OK) || !fits && (name != "" || balance != 0) {
				t.Fatalf("P1: Verify(%x, %x) = %q, %d, %d", r, p, name, balance, e)
			}
		}
	}
}

func TestP1ManyBytes(t *testing.T) {
	many := make([]byte, 1<<20)
	report, proof := forge(0, account{"a", 5, 1})
	tithe.Sum(many)
	refused(t, "many bytes as a report", string(many), proof, api.ErrReport)
	refused(t, "many bytes as a proof", report, string(many), api.ErrProof)
}

func TestP2NothingIsWrittenInto(t *testing.T) {
	d := dice(2)
	for range 10000 {
		height := d.roll(7)
		report, proof := forge(d.roll(1<<height), account{"name", 5, 1}, someMarks(height)...)
		r, p := withRoom(d.spoil(report)), withRoom(d.spoil(proof))
		r1, p1 := bytes.Clone(whole(r)), bytes.Clone(whole(p))
		tithe.Verify(r, p)
		tithe.Sum(r)
		tithe.Sum(p)
		if !bytes.Equal(whole(r), r1) || !bytes.Equal(whole(p), p1) {
			t.Fatalf("P2: %x, %x became %x, %x", r1, p1, whole(r), whole(p))
		}
	}
}

func TestP2NothingIsKept(t *testing.T) {
	report, proof := forge(2, account{"a name", 5, 1}, someMarks(3)...)
	r, p := []byte(report), []byte(proof)
	name, balance, e := tithe.Verify(r, p)
	clear(r)
	clear(p)
	if name != "a name" || balance != 5 || e != api.OK {
		t.Errorf("P2: what came out became %q, %d, %d", name, balance, e)
	}
	refused(t, "what is now empty", string(r), string(p), api.ErrProof)
	accepted(t, "the same once more", report, proof, "a name", 5)
	b := []byte("text")
	first := tithe.Sum(b)
	clear(b)
	if first != tithe.Sum([]byte("text")) || first == tithe.Sum(b) {
		t.Errorf("P2: the digest became %x", first)
	}
}

func TestP2TheArgumentsAlone(t *testing.T) {
	type answer struct {
		name    string
		balance uint64
		e       api.Errno
		digest  api.Digest
	}
	ask := func(r, p []byte) answer {
		n, v, e := tithe.Verify(r, p)
		return answer{n, v, e, tithe.Sum(p)}
	}
	d := dice(3)
	asked, answers := [][2][]byte{}, []answer{}
	for range 2000 {
		height := d.roll(7)
		report, proof := forge(d.roll(1<<height), account{"name", 5, 1}, someMarks(height)...)
		r, p := d.spoil(report), d.spoil(proof)
		asked, answers = append(asked, [2][]byte{r, p}), append(answers, ask(r, p))
	}
	for i := len(asked) - 1; i >= 0; i-- {
		r, p := asked[i][0], asked[i][1]
		if again := ask(withRoom(r), withRoom(p)); again != answers[i] {
			t.Fatalf("P2: of %x, %x first %v, then %v", r, p, answers[i], again)
		}
	}
}
