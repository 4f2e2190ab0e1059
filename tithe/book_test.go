package tithe_test

import (
	"math"
	"testing"

	"tithe/api"
	"tithe/tithe"
)

func TestP4Heights(t *testing.T) {
	for height := range 7 {
		newBook(t, height, 0)
	}
	for _, height := range []int{-1, -2, -64, 7, 8, 64, 256, 262, math.MinInt, math.MaxInt} {
		if b, e := tithe.New(api.Config{Height: height, Seed: 5}); b != nil || e != api.ErrConfig {
			t.Errorf("P4: New of height %d: a book %v, error %d", height, b != nil, e)
		}
	}
}

func TestP4NothingIsInANewBook(t *testing.T) {
	for _, seed := range []uint64{0, 1, math.MaxUint64} {
		b := newBook(t, 3, seed)
		for _, name := range []string{"", "a", "\x00"} {
			lacks(t, b, name)
			provesNot(t, b, name, api.ErrReport)
		}
		empty, _ := honest(3, nil)
		publishes(t, b, empty)
	}
}

func TestP4BooksAreApart(t *testing.T) {
	a, b := newBook(t, 1, 0), newBook(t, 1, 0)
	says(t, "Open", a.Open("x"), api.OK)
	says(t, "Pay", a.Pay("x", most), api.OK)
	lacks(t, b, "x")
	says(t, "Open in another book", b.Open("x"), api.OK)
	says(t, "Pay in another book", b.Pay("x", most), api.OK)
	publishes(t, a, reportBytes(1, nodeMark(account{"x", most, saltByWords(0, 0)}.mark(), padMark(1))))
	provesNot(t, b, "x", api.ErrReport)
}

func TestP5Open(t *testing.T) {
	b := newBook(t, 0, 0)
	long := ""
	for length := range 300 {
		if 1 <= length && length <= 8 {
			says(t, "P5: Open of a name", b.Open(long), api.OK)
			holds(t, b, long, 0)
			says(t, "P5: Open of a name that there is", b.Open(long), api.ErrTwice)
			holds(t, b, long, 0)
		} else {
			says(t, "P5: Open of no name", b.Open(long), api.ErrName)
			says(t, "P5: Open of no name, again", b.Open(long), api.ErrName)
			lacks(t, b, long)
		}
		long += "n"
	}
}

func TestP5OpenTwiceLeavesTheBalance(t *testing.T) {
	b := bookOf(t, 0, 0, []account{{name: "a", balance: 5}})
	says(t, "P5: Open again", b.Open("a"), api.ErrTwice)
	holds(t, b, "a", 5)
}

func TestP5NamesOfAnyBytes(t *testing.T) {
	b := newBook(t, 6, 0)
	names := []string{}
	for i := range 256 {
		names = append(names, oneByte(i), oneByte(i)+"\x00", "1234567"+oneByte(i))
	}
	names = append(names, "\xff\xfe\xfd\xfc\xfb\xfa\xf9\xf8", "\x00\x00\x00", "é", "日本")
	for i, name := range names {
		says(t, "P5: Open of any bytes", b.Open(name), api.OK)
		says(t, "P5: Pay", b.Pay(name, uint64(i)), api.OK)
	}
	for i, name := range names {
		holds(t, b, name, uint64(i))
	}
}

func TestP5MoreAccountsThanPlaces(t *testing.T) {
	b := newBook(t, 0, 0)
	for i := range 5000 {
		says(t, "P5: Open of many", b.Open("n"+oneByte(i)+oneByte(i>>8)), api.OK)
	}
}

func TestP5Unknown(t *testing.T) {
	b := bookOf(t, 0, 0, []account{{name: "a", balance: 5}, {name: "gone"}})
	says(t, "P5: Close", b.Close("gone"), api.OK)
	for _, name := range []string{"", "b", "A", "aa", "a\x00", "gone", "a name too long"} {
		lacks(t, b, name)
		says(t, "P5: Close of none", b.Close(name), api.ErrUnknown)
		for _, n := range []uint64{0, 1, most, most + 1, math.MaxUint64} {
			says(t, "P5: Pay to none", b.Pay(name, n), api.ErrUnknown)
			says(t, "P5: Draw from none", b.Draw(name, n), api.ErrUnknown)
			says(t, "P5: Move from none", b.Move(name, "a", n), api.ErrUnknown)
			says(t, "P5: Move to none", b.Move("a", name, n), api.ErrUnknown)
			says(t, "P5: Move from none to itself", b.Move(name, name, n), api.ErrUnknown)
		}
		lacks(t, b, name)
	}
	holds(t, b, "a", 5)
	report, _ := honest(0, withSalts(0, []account{{name: "a", balance: 5}}))
	publishes(t, b, report)
}

func TestP5Close(t *testing.T) {
	b := bookOf(t, 0, 0, []account{{name: "a", balance: 1}, {name: "b"}})
	says(t, "P5: Close with something left", b.Close("a"), api.ErrLeft)
	holds(t, b, "a", 1)
	says(t, "P5: Draw", b.Draw("a", 1), api.OK)
	says(t, "P5: Close", b.Close("a"), api.OK)
	lacks(t, b, "a")
	holds(t, b, "b", 0)
	says(t, "P5: Close again", b.Close("a"), api.ErrUnknown)
	says(t, "P5: Open again", b.Open("a"), api.OK)
	holds(t, b, "a", 0)
}

func TestP5PayUpToTheMost(t *testing.T) {
	b := bookOf(t, 2, 0, []account{{name: "a"}, {name: "b"}})
	for _, n := range []uint64{most + 1, 1 << 63, 3 << 62, math.MaxUint64} {
		says(t, "P5: Pay more than the most", b.Pay("a", n), api.ErrRange)
		holds(t, b, "a", 0)
	}
	says(t, "P5: Pay the most", b.Pay("a", most), api.OK)
	says(t, "P5: Pay nothing behind the most", b.Pay("b", 0), api.OK)
	for _, n := range []uint64{1, 2, most, most + 1, 1 << 63, 3 << 62, math.MaxUint64 - most, math.MaxUint64 - most + 1, math.MaxUint64} {
		says(t, "P5: Pay to another behind the most", b.Pay("b", n), api.ErrRange)
		says(t, "P5: Pay to the same behind the most", b.Pay("a", n), api.ErrRange)
	}
	holds(t, b, "a", most)
	holds(t, b, "b", 0)
}

// The bound is that of all balances together, whichever accounts hold them and
// whatever was done before.
func TestP5TheMostIsOfAllTogether(t *testing.T) {
	b := bookOf(t, 2, 0, []account{{name: "a", balance: most - 30}, {name: "b", balance: 20}, {name: "c"}})
	says(t, "P5: Pay one too much", b.Pay("c", 11), api.ErrRange)
	says(t, "P5: Move", b.Move("a", "b", most-30), api.OK)
	says(t, "P5: Move to itself", b.Move("b", "b", most-10), api.OK)
	says(t, "P5: Pay one too much", b.Pay("c", 11), api.ErrRange)
	says(t, "P5: Close", b.Close("a"), api.OK)
	says(t, "P5: Draw too much", b.Draw("b", most), api.ErrRange)
	says(t, "P5: Pay one too much", b.Pay("c", 11), api.ErrRange)
	says(t, "P5: Pay as much as may be", b.Pay("c", 10), api.OK)
	says(t, "P5: Pay one more", b.Pay("c", 1), api.ErrRange)
	says(t, "P5: Draw", b.Draw("b", 5), api.OK)
	says(t, "P5: Pay one too much", b.Pay("c", 6), api.ErrRange)
	says(t, "P5: Pay what was drawn", b.Pay("c", 5), api.OK)
	holds(t, b, "b", most-15)
	holds(t, b, "c", 15)
}

func TestP5Draw(t *testing.T) {
	b := bookOf(t, 0, 0, []account{{name: "a", balance: 10}, {name: "b", balance: 100}})
	for _, n := range []uint64{11, 12, 100, most, 1 << 63, math.MaxUint64} {
		says(t, "P5: Draw more than it has", b.Draw("a", n), api.ErrRange)
		holds(t, b, "a", 10)
	}
	says(t, "P5: Draw nothing", b.Draw("a", 0), api.OK)
	says(t, "P5: Draw some", b.Draw("a", 4), api.OK)
	holds(t, b, "a", 6)
	says(t, "P5: Draw all", b.Draw("a", 6), api.OK)
	holds(t, b, "a", 0)
	says(t, "P5: Draw nothing of nothing", b.Draw("a", 0), api.OK)
	says(t, "P5: Draw one of nothing", b.Draw("a", 1), api.ErrRange)
	holds(t, b, "b", 100)
}

func TestP5Move(t *testing.T) {
	b := bookOf(t, 0, 0, []account{{name: "a", balance: 10}, {name: "b", balance: 100}})
	for _, n := range []uint64{11, 100, most, 1 << 63, math.MaxUint64} {
		says(t, "P5: Move more than it has", b.Move("a", "b", n), api.ErrRange)
		says(t, "P5: Move more than it has to itself", b.Move("a", "a", n), api.ErrRange)
	}
	holds(t, b, "a", 10)
	for _, n := range []uint64{0, 1, 9, 10} {
		says(t, "P5: Move to itself", b.Move("a", "a", n), api.OK)
		holds(t, b, "a", 10)
	}
	says(t, "P5: Move nothing", b.Move("a", "b", 0), api.OK)
	says(t, "P5: Move some", b.Move("a", "b", 3), api.OK)
	holds(t, b, "a", 7)
	holds(t, b, "b", 103)
	says(t, "P5: Move all", b.Move("b", "a", 103), api.OK)
	holds(t, b, "a", 110)
	holds(t, b, "b", 0)
	says(t, "P5: Close what was moved away", b.Close("b"), api.OK)
}

func TestP5MoveTheMost(t *testing.T) {
	b := bookOf(t, 0, 0, []account{{name: "a", balance: most}, {name: "b"}})
	says(t, "P5: Move the most to itself", b.Move("a", "a", most), api.OK)
	says(t, "P5: Move the most", b.Move("a", "b", most), api.OK)
	holds(t, b, "a", 0)
	holds(t, b, "b", most)
}
