package tithe_test

import (
	"bytes"
	"slices"
	"testing"

	"tithe/api"
	"tithe/tithe"
)

// listWithRoom has proofs with room behind each, and room behind them all.
func listWithRoom(proofs [][]byte) [][]byte {
	list := make([][]byte, 0, len(proofs)+3)
	for _, p := range proofs {
		list = append(list, withRoom(p))
	}
	for i := range 3 {
		list[:cap(list)][len(proofs)+i] = []byte("room that is not the call's")
	}
	return list
}

func wholeList(list [][]byte) [][]byte {
	all := [][]byte{}
	for _, p := range list[:cap(list)] {
		all = append(all, bytes.Clone(whole(p)))
	}
	return all
}

// spoiledWays are honest and forged proofs, some of them spoiled or twice.
func spoiledWays(d *dice) ([]byte, [][]byte) {
	report, ways := someWays(d, d.roll(4))
	proofs := [][]byte{}
	for _, w := range ways {
		proofs = append(proofs, []byte(w.proof()))
	}
	switch d.roll(4) {
	case 0:
		report = string(d.spoil(report))
	case 1:
		for i, p := range proofs {
			if d.roll(4) == 0 {
				proofs[i] = d.spoil(string(p))
			}
		}
	case 2:
		proofs = append(proofs, proofs[:d.roll(len(proofs)+1)]...)
	}
	return []byte(report), proofs
}

// errorByWords is what P8 says of errors.
func errorByWords(report []byte, proofs [][]byte) api.Errno {
	if !isReport(report) {
		return api.ErrReport
	}
	names := []string{}
	for _, p := range proofs {
		name, _, e := tithe.Verify(report, p)
		if e != api.OK {
			return e
		}
		names = append(names, name)
	}
	for i, name := range names {
		if slices.Contains(names[:i], name) {
			return api.ErrTwice
		}
	}
	return api.OK
}

func TestP1ExtractOfAnything(t *testing.T) {
	d := dice(31)
	seen := map[api.Errno]int{}
	for range 600 {
		report, proofs := spoiledWays(&d)
		x, y, e := tithe.Extract(report, proofs)
		seen[e]++
		if want := errorByWords(report, proofs); e != want {
			t.Fatalf("P8: Extract(%x, %x): error %d, want %d", report, proofs, e, want)
		}
		if e != api.OK && (len(x) != 0 || len(y) != 0) {
			t.Fatalf("P1: Extract(%x, %x): beside the error %d stand %x, %x", report, proofs, e, x, y)
		}
		if (len(x) == 0) != (len(y) == 0) || len(x) > 0 && (bytes.Equal(x, y) || tithe.Sum(x) != tithe.Sum(y)) {
			t.Fatalf("P8: Extract(%x, %x): %x, %x are not two texts of one digest", report, proofs, x, y)
		}
	}
	if seen[api.OK] == 0 || seen[api.ErrReport] == 0 || seen[api.ErrProof] == 0 || seen[api.ErrTwice] == 0 || len(seen) != 4 {
		t.Errorf("P1: how often which answer: %v", seen)
	}
}

func TestP1ExtractOfMany(t *testing.T) {
	report, proofs := honest(6, someAccounts(64))
	many := make([][]byte, 100000)
	for i := range many {
		many[i] = []byte(proofs[i%64])
	}
	if x, y, e := tithe.Extract([]byte(report), many); len(x) != 0 || len(y) != 0 || e != api.ErrTwice {
		t.Errorf("P1: many proofs: %x, %x, %d", x, y, e)
	}
	many[len(many)-1] = nil
	if x, y, e := tithe.Extract([]byte(report), many); len(x) != 0 || len(y) != 0 || e != api.ErrProof {
		t.Errorf("P1: many proofs, then none: %x, %x, %d", x, y, e)
	}
}

func TestP2ExtractWritesIntoNothing(t *testing.T) {
	d := dice(32)
	for range 200 {
		report, proofs := spoiledWays(&d)
		r, list := withRoom(report), listWithRoom(proofs)
		r1, list1, was := bytes.Clone(whole(r)), wholeList(list), slices.Clone(list[:cap(list)])
		x, y, _ := tithe.Extract(r, list)
		clear(whole(x))
		clear(whole(y))
		if !bytes.Equal(whole(r), r1) || !slices.EqualFunc(wholeList(list), list1, bytes.Equal) {
			t.Fatalf("P2: %x, %x became %x, %x", r1, list1, whole(r), wholeList(list))
		}
		for i, p := range list[:cap(list)] {
			if &whole(p)[0] != &whole(was[i])[0] || len(p) != len(was[i]) {
				t.Fatalf("P2: another proof stands at %d", i)
			}
		}
	}
}

// forgedPair is a report with two proofs that have two texts at a level.
func forgedPair(level int) ([]byte, [][]byte, string, string) {
	d := dice(33)
	report, ways := honestWays(2, someAccounts(4))
	f := fake(&d, ways[1], level, 1, "f", 0)
	proofs := [][]byte{[]byte(ways[1].proof()), []byte(f.proof())}
	return []byte(report), proofs, ways[1].textAt(level), f.textAt(level)
}

func TestP2WhatExtractAnswersIsNew(t *testing.T) {
	for level := range 3 {
		report, proofs, first, other := forgedPair(level)
		x, y, e := tithe.Extract(report, proofs)
		says(t, "Extract", e, api.OK)
		x1, y1, e := tithe.Extract(report, proofs)
		says(t, "Extract", e, api.OK)
		clear(whole(x))
		if string(y) != other {
			t.Errorf("P2: the other text became %x", y)
		}
		clear(whole(y))
		clear(report)
		for _, p := range proofs {
			clear(p)
		}
		clear(proofs)
		if string(x1) != first || string(y1) != other {
			t.Errorf("P2: what came out became %x, %x", x1, y1)
		}
		report, proofs, _, _ = forgedPair(level)
		x2, y2, e := tithe.Extract(report, proofs)
		if string(x2) != first || string(y2) != other || e != api.OK {
			t.Errorf("P2: once more it is %x, %x, %d", x2, y2, e)
		}
	}
}

func TestP2ExtractTakesTheArgumentsAlone(t *testing.T) {
	type answer struct {
		first, other string
		e            api.Errno
	}
	ask := func(report []byte, proofs [][]byte) answer {
		x, y, e := tithe.Extract(report, proofs)
		return answer{string(x), string(y), e}
	}
	d := dice(34)
	reports, lists, answers := [][]byte{}, [][][]byte{}, []answer{}
	for range 200 {
		report, proofs := spoiledWays(&d)
		reports, lists, answers = append(reports, report), append(lists, proofs), append(answers, ask(report, proofs))
	}
	for i := len(lists) - 1; i >= 0; i-- {
		if again := ask(withRoom(reports[i]), listWithRoom(lists[i])); again != answers[i] {
			t.Fatalf("P2: of %x, %x first %v, then %v", reports[i], lists[i], answers[i], again)
		}
	}
}
