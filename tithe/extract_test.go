package tithe_test

import (
	"slices"
	"strconv"
	"testing"

	"tithe/api"
	"tithe/tithe"
)

func extracts(t *testing.T, what, report string, proofs []string, first, other string, e api.Errno) {
	t.Helper()
	list := make([][]byte, len(proofs))
	for i, p := range proofs {
		list[i] = []byte(p)
	}
	x, y, f := tithe.Extract([]byte(report), list)
	if string(x) != first || string(y) != other || f != e {
		t.Errorf("P8: %s: Extract(%x, %x) = %x, %x, %d, want %x, %x, %d", what, report, proofs, x, y, f, first, other, e)
	}
}

func findsNothing(t *testing.T, what, report string, proofs ...string) {
	t.Helper()
	extracts(t, what, report, proofs, "", "", api.OK)
}

func extractsNot(t *testing.T, what string, e api.Errno, report string, proofs ...string) {
	t.Helper()
	extracts(t, what, report, proofs, "", "", e)
}

// finds holds what is found against two texts, and these against their promise.
func finds(t *testing.T, what, report, first, other string, proofs ...string) {
	t.Helper()
	extracts(t, what, report, proofs, first, other, api.OK)
	if first == other || digestByWords(first) != digestByWords(other) {
		t.Fatalf("%s: %x and %x are not two texts of one digest", what, first, other)
	}
}

// textAt is the text on the way at a level.
func (w way) textAt(level int) string {
	texts, _ := w.climb()
	return texts[level]
}

func proofsOf(ways ...way) []string {
	proofs := []string{}
	for _, w := range ways {
		proofs = append(proofs, w.proof())
	}
	return proofs
}

func TestP8WrittenOut(t *testing.T) {
	report := fromHex(t, "01916eb00000000000000133")
	ann := fromHex(t, "010003616e6e000000000000012c00000000000014da730b960000000000000007")
	bob := fromHex(t, "010103626f6200000000000000070000000000000009d05852000000000000012c")
	eve := fromHex(t, "010003657665000000000000012c000000000000270a730b960000000000000007")
	zoe := fromHex(t, "0101037a6f650000000000000132000000000000000408ab580000000000000001")
	findsNothing(t, "honest", report, ann, bob)
	findsNothing(t, "honest, the other way round", report, bob, ann)
	findsNothing(t, "a forged one that nobody gainsays", report, bob, eve)
	findsNothing(t, "a forged one alone", report, zoe)

	leafAnn := fromHex(t, "0003616e6e000000000000012c00000000000014da")
	leafEve := fromHex(t, "0003657665000000000000012c000000000000270a")
	finds(t, "two leaves", report, leafAnn, leafEve, ann, bob, eve)
	finds(t, "two leaves, the other way round", report, leafEve, leafAnn, eve, bob, ann)

	top := fromHex(t, "01d05852000000000000012c730b960000000000000007")
	forged := fromHex(t, "0108ab580000000000000001aeee2f0000000000000132")
	finds(t, "two roots", report, top, forged, ann, zoe)
	finds(t, "two roots, the other way round", report, forged, top, zoe, bob)
	finds(t, "two roots and two leaves", report, top, forged, ann, eve, zoe)
}

func TestP8NoProofs(t *testing.T) {
	for height := range 7 {
		report, _ := honest(height, someAccounts(1))
		findsNothing(t, "no proofs", report)
		if x, y, e := tithe.Extract([]byte(report), nil); len(x) != 0 || len(y) != 0 || e != api.OK {
			t.Errorf("P8: no list of proofs: %x, %x, %d", x, y, e)
		}
		findsNothing(t, "a report of what nobody knows", reportBytes(height, mark{"abc", most}))
	}
}

func TestP8NoReport(t *testing.T) {
	report, proofs := honest(2, someAccounts(3))
	wrong := []string{"", report[:11], report + "\x00", report + report, proofs[0]}
	for height := 7; height < 256; height++ {
		wrong = append(wrong, oneByte(height)+report[1:])
	}
	for _, sum := range []uint64{most + 1, 1 << 63, 1<<64 - 1} {
		wrong = append(wrong, report[:4]+eightBytes(sum))
	}
	for _, r := range wrong {
		extractsNot(t, "no report, no proofs", api.ErrReport, r)
		extractsNot(t, "no report", api.ErrReport, r, proofs...)
		extractsNot(t, "no report, no proof", api.ErrReport, r, "", "no proof")
		extractsNot(t, "no report, a name twice", api.ErrReport, r, proofs[0], proofs[0])
	}
}

func TestP8HonestProofs(t *testing.T) {
	for height := range 7 {
		for count := range 1<<height + 1 {
			report, proofs := honest(height, someAccounts(count))
			findsNothing(t, "all proofs", report, proofs...)
			for i := range proofs {
				findsNothing(t, "one proof", report, proofs[i])
				findsNothing(t, "some proofs", report, proofs[i:]...)
			}
			slices.Reverse(proofs)
			findsNothing(t, "all proofs, backwards", report, proofs...)
		}
	}
}

func TestP8ARefusedProof(t *testing.T) {
	report, proofs := honest(2, someAccounts(4))
	_, others := honest(2, someAccounts(3))
	_, higher := honest(3, someAccounts(4))
	last := len(proofs[0]) - 1
	for _, wrong := range []string{"", "\x02", proofs[0][:last], proofs[0] + "\x00", others[0], higher[0], report} {
		for i := range len(proofs) + 1 {
			extractsNot(t, "a refused proof", api.ErrProof, report, slices.Insert(slices.Clone(proofs), i, wrong)...)
		}
		extractsNot(t, "a refused proof alone", api.ErrProof, report, wrong)
		extractsNot(t, "a refused proof twice", api.ErrProof, report, wrong, wrong)
		extractsNot(t, "ahead of a name twice", api.ErrProof, report, wrong, proofs[1], proofs[1])
		extractsNot(t, "behind a name twice", api.ErrProof, report, proofs[1], proofs[1], wrong)
	}
	list := [][]byte{[]byte(proofs[0]), nil}
	if x, y, e := tithe.Extract([]byte(report), list); len(x) != 0 || len(y) != 0 || e != api.ErrProof {
		t.Errorf("P8: a proof that is nil: %x, %x, %d", x, y, e)
	}
}

// A refused proof is an error even where the others have two texts already.
func TestP8ARefusedProofAmongForgedOnes(t *testing.T) {
	d := dice(21)
	report, ways := honestWays(3, someAccounts(8))
	for level := range 4 {
		f := fake(&d, ways[3], level, 3, "f", ways[3].leaf.balance)
		proofs := proofsOf(ways[3], f)
		finds(t, "two texts", report, ways[3].textAt(level), f.textAt(level), proofs...)
		extractsNot(t, "behind them one that is refused", api.ErrProof, report, append(proofs, "")...)
	}
}

func TestP8ANameTwice(t *testing.T) {
	accounts := someAccounts(8)
	report, proofs := honest(3, accounts)
	for i, p := range proofs {
		extractsNot(t, "one proof twice", api.ErrTwice, report, p, p)
		extractsNot(t, "one proof twice among others", api.ErrTwice, report, append(slices.Clone(proofs), p)...)
		extractsNot(t, "one proof twice, ahead", api.ErrTwice, report, append([]string{p}, proofs...)...)
		j := (i + 3) % 8
		extractsNot(t, "two of them twice", api.ErrTwice, report, proofs[i], proofs[j], proofs[i], proofs[j])
	}
	for i := range accounts {
		for j := range i {
			both := slices.Clone(accounts)
			both[i].name = both[j].name
			report, proofs := honest(3, both)
			extractsNot(t, "one name at two places", api.ErrTwice, report, proofs...)
			extractsNot(t, "one name at two places alone", api.ErrTwice, report, proofs[i], proofs[j])
			findsNothing(t, "one of both", report, slices.Delete(proofs, i, i+1)...)
		}
	}
}

func TestP8ANameTwiceWithTwoTexts(t *testing.T) {
	d := dice(22)
	report, ways := honestWays(3, someAccounts(8))
	w := ways[5]
	for level := range 4 {
		f := fake(&d, w, level, 5, w.leaf.name, w.leaf.balance)
		extractsNot(t, "two texts of one name", api.ErrTwice, report, w.proof(), f.proof())
		g := fake(&d, w, level, 5, "g", w.leaf.balance)
		extractsNot(t, "two texts, and a name twice", api.ErrTwice, report, w.proof(), g.proof(), w.proof())
	}
}

func TestP8NamesThatAreNearlyTheSame(t *testing.T) {
	accounts := []account{}
	for i, name := range []string{"\x00", "\x00\x00", "A", "a", "a\x00", "aa", "aaaaaaa", "aaaaaaaa", "aaaaaaab", "baaaaaaa", "\x80", "\xfe", "\xff", "é", "e\u0301"} {
		accounts = append(accounts, account{name, uint64(i), 1})
	}
	report, proofs := honest(4, accounts)
	findsNothing(t, "names that are nearly the same", report, proofs...)
}

// At each place of each level, with the other ones around.
func TestP8TwoTextsAnywhere(t *testing.T) {
	d := dice(23)
	for height := range 7 {
		report, ways := honestWays(height, someAccounts(1<<height))
		proofs := proofsOf(ways...)
		for level := range height + 1 {
			for range 6 {
				w := ways[d.roll(len(ways))]
				place := w.place>>level<<level + d.roll(1<<level)
				f := fake(&d, w, level, place, "f", w.markAt(level).sum)
				accepted(t, "a forged proof", report, f.proof(), "f", w.markAt(level).sum)
				findsNothing(t, "a forged proof alone", report, f.proof())
				x, y := w.textAt(level), f.textAt(level)
				finds(t, "honest first", report, x, y, w.proof(), f.proof())
				finds(t, "forged first", report, y, x, f.proof(), w.proof())
				finds(t, "forged last", report, x, y, append(slices.Clone(proofs), f.proof())...)
				finds(t, "forged ahead of all", report, y, x, append([]string{f.proof()}, proofs...)...)
			}
		}
	}
}

// A forged way and those that don't meet it below where it joins the honest one.
func TestP8WaysThatMeetFurtherUp(t *testing.T) {
	d := dice(24)
	report, ways := honestWays(4, someAccounts(16))
	for level := range 5 {
		f := fake(&d, ways[6], level, 6, "f", 0)
		for _, w := range ways {
			if w.place>>level == 6>>level {
				finds(t, "ways that meet", report, w.textAt(level), f.textAt(level), w.proof(), f.proof())
			} else {
				findsNothing(t, "ways that meet further up", report, w.proof(), f.proof())
				findsNothing(t, "ways that meet further up", report, f.proof(), w.proof())
			}
		}
	}
}

func TestP8RootDown(t *testing.T) {
	d := dice(25)
	report, ways := honestWays(3, someAccounts(8))
	lower := fake(&d, ways[0], 0, 0, "lower", ways[0].leaf.balance)
	middle := fake(&d, ways[6], 1, 6, "middle", 1)
	upper := fake(&d, ways[7], 2, 7, "upper", 2)
	root := fake(&d, ways[3], 3, 3, "root", 3)
	proofs := proofsOf(append(slices.Clone(ways), lower)...)
	finds(t, "a leaf", report, ways[0].textAt(0), lower.textAt(0), proofs...)
	proofs = append(proofs, middle.proof())
	finds(t, "a node to its right, further up", report, ways[6].textAt(1), middle.textAt(1), proofs...)
	proofs = append(proofs, upper.proof())
	finds(t, "a node above that", report, ways[6].textAt(2), upper.textAt(2), proofs...)
	proofs = append(proofs, root.proof())
	finds(t, "the root", report, ways[0].textAt(3), root.textAt(3), proofs...)
	slices.Reverse(proofs)
	finds(t, "backwards", report, root.textAt(3), upper.textAt(3), proofs...)
}

// Which place is further to the left counts, not whose proofs come first.
func TestP8FromTheLeft(t *testing.T) {
	d := dice(26)
	report, ways := honestWays(3, someAccounts(8))
	for level := range 3 {
		for right := range 8 >> level {
			r := ways[right<<level]
			fr := fake(&d, r, level, r.place, "right", 0)
			for left := range right {
				l := ways[left<<level]
				fl := fake(&d, l, level, l.place, "left", 0)
				x, y := l.textAt(level), fl.textAt(level)
				finds(t, "the right ones first", report, x, y, proofsOf(r, fr, l, fl)...)
				finds(t, "the left ones first", report, x, y, proofsOf(l, fl, r, fr)...)
				finds(t, "in turn", report, y, x, proofsOf(r, fl, fr, l)...)
			}
		}
	}
}

func TestP8FirstOfSeveralTexts(t *testing.T) {
	d := dice(27)
	for level := range 4 {
		report, ways := honestWays(3, someAccounts(8))
		w := ways[2]
		all := []way{w}
		for _, name := range []string{"z", "y", "x"} {
			all = append(all, fake(&d, w, level, 2, name, w.leaf.balance))
		}
		for i, first := range all {
			for j, second := range all {
				if i == j {
					continue
				}
				rest := proofsOf(slices.DeleteFunc(slices.Clone(all), func(o way) bool { return o.leaf == first.leaf || o.leaf == second.leaf })...)
				proofs := append(proofsOf(first, second), rest...)
				finds(t, "several texts", report, first.textAt(level), second.textAt(level), proofs...)
			}
		}
	}
}

// The first text comes once more ahead of the one that is another.
func TestP8TheOtherTextIsAnother(t *testing.T) {
	d := dice(28)
	report, ways := honestWays(2, someAccounts(4))
	f, g := fake(&d, ways[3], 1, 3, "f", 0), fake(&d, ways[3], 2, 3, "g", 0)
	finds(t, "a node", report, ways[2].textAt(1), f.textAt(1), append(proofsOf(ways...), f.proof())...)
	finds(t, "the root", report, ways[0].textAt(2), g.textAt(2), proofsOf(ways[0], ways[1], f, ways[2], g, ways[3])...)
	finds(t, "the forged one ahead", report, f.textAt(1), ways[2].textAt(1), proofsOf(ways[0], f, ways[2], ways[3])...)
}

// byWords is what P8 says of accepted proofs, as slowly as it is said.
func byWords(height int, ways []way) (string, string) {
	for level := height; level >= 0; level-- {
		for place := range 1 << (height - level) {
			through := []string{}
			for _, w := range ways {
				if w.place>>level == place {
					through = append(through, w.textAt(level))
				}
			}
			for _, text := range through {
				if text != through[0] {
					return through[0], text
				}
			}
		}
	}
	return "", ""
}

// someWays are honest and forged ones, and forgeries of these, in some order.
func someWays(d *dice, height int) (string, []way) {
	report, ways := honestWays(height, someAccounts(1+d.roll(1<<height)))
	honestCount := len(ways)
	for i := range d.roll(5) {
		w, level := ways[d.roll(len(ways))], d.roll(height+1)
		place := w.place>>level<<level + d.roll(1<<level)
		balance := w.markAt(level).sum / uint64(1+d.roll(3))
		ways = append(ways, fake(d, w, level, place, "f"+strconv.Itoa(i), balance))
	}
	kept := []way{}
	for i, w := range ways {
		if i >= honestCount || d.roll(3) > 0 {
			kept = slices.Insert(kept, d.roll(len(kept)+1), w)
		}
	}
	return report, kept
}

func TestP8AndP9SomeWays(t *testing.T) {
	d := dice(29)
	nothing, something := 0, 0
	for range 400 {
		height := d.roll(7)
		report, ways := someWays(&d, height)
		x, y := byWords(height, ways)
		extracts(t, "some proofs", report, proofsOf(ways...), x, y, api.OK)
		if x == "" {
			nothing++
			atMost(t, report, ways)
		} else {
			something++
		}
	}
	if nothing < 50 || something < 50 {
		t.Errorf("%d times nothing, %d times something", nothing, something)
	}
}

func atMost(t *testing.T, report string, ways []way) {
	t.Helper()
	left := uint64(0)
	for i := range 8 {
		left = left<<8 | uint64(report[4+i])
	}
	for _, w := range ways {
		if w.leaf.balance > left {
			t.Fatalf("P9: %x tells of less than its proofs %x", report, proofsOf(ways...))
		}
		left -= w.leaf.balance
	}
}

// A report that forgets: some customers' accounts stand in for others.
func TestP9WhoIsForgotten(t *testing.T) {
	d := dice(30)
	for height := range 7 {
		report, ways := honestWays(height, []account{{"ann", most, 1}})
		for level := range height + 1 {
			f := fake(&d, ways[0], level, d.roll(1<<level), "bob", most)
			finds(t, "P9: all of it twice", report, ways[0].textAt(level), f.textAt(level), ways[0].proof(), f.proof())
			findsNothing(t, "P9: all of it", report, f.proof())
		}
	}
}

func TestP9OfABook(t *testing.T) {
	b := bookOf(t, 6, 5, someAccounts(64))
	report, e := b.Publish()
	says(t, "Publish", e, api.OK)
	proofs := []string{}
	for _, a := range someAccounts(64) {
		p, e := b.Proof(a.name)
		says(t, "Proof", e, api.OK)
		proofs = append(proofs, string(p))
		findsNothing(t, "P9: a book's proofs", string(report), proofs...)
	}
}
