package tithe_test

import (
	"math/big"
	"slices"
	"testing"

	"tithe/api"
	"tithe/tithe"
)

// ledger is a book by the document's words, once more: a list that is gone
// through each time, with sums that have no bounds.
type ledger struct {
	height    int
	seed      uint64
	accounts  []account
	published bool
	inReport  []account
	proofs    []string
}

func (l *ledger) find(name string) *account {
	for i := range l.accounts {
		if l.accounts[i].name == name {
			return &l.accounts[i]
		}
	}
	return nil
}

func (l *ledger) open(name string) api.Errno {
	switch {
	case len(name) < 1 || len(name) > 8:
		return api.ErrName
	case l.find(name) != nil:
		return api.ErrTwice
	}
	l.accounts = append(l.accounts, account{name: name})
	return api.OK
}

func (l *ledger) close(name string) api.Errno {
	a := l.find(name)
	switch {
	case a == nil:
		return api.ErrUnknown
	case a.balance != 0:
		return api.ErrLeft
	}
	l.accounts = slices.DeleteFunc(l.accounts, func(a account) bool { return a.name == name })
	return api.OK
}

func (l *ledger) pay(name string, n uint64) api.Errno {
	a := l.find(name)
	if a == nil {
		return api.ErrUnknown
	}
	sum := new(big.Int).SetUint64(n)
	for _, o := range l.accounts {
		sum.Add(sum, new(big.Int).SetUint64(o.balance))
	}
	if sum.Cmp(new(big.Int).SetUint64(most)) > 0 {
		return api.ErrRange
	}
	a.balance += n
	return api.OK
}

func (l *ledger) draw(name string, n uint64) api.Errno {
	a := l.find(name)
	switch {
	case a == nil:
		return api.ErrUnknown
	case a.balance < n:
		return api.ErrRange
	}
	a.balance -= n
	return api.OK
}

func (l *ledger) move(from, to string, n uint64) api.Errno {
	a, b := l.find(from), l.find(to)
	switch {
	case a == nil || b == nil:
		return api.ErrUnknown
	case a.balance < n:
		return api.ErrRange
	case from != to:
		a.balance -= n
		b.balance += n
	}
	return api.OK
}

func (l *ledger) publish() (string, api.Errno) {
	if len(l.accounts) > 1<<l.height {
		return "", api.ErrFull
	}
	l.published = true
	l.inReport = withSalts(l.seed, l.accounts)
	report, proofs := honest(l.height, l.inReport)
	l.proofs = proofs
	return report, api.OK
}

func (l *ledger) proof(name string) (string, api.Errno) {
	if !l.published {
		return "", api.ErrReport
	}
	for i, a := range l.inReport {
		if a.name == name {
			return l.proofs[i], api.OK
		}
	}
	return "", api.ErrUnknown
}

// withSalts puts accounts in the order of their names, byte by byte, and gives
// each the salt of its place.
func withSalts(seed uint64, accounts []account) []account {
	sorted := slices.SortedFunc(slices.Values(accounts), func(a, b account) int {
		return slices.Compare([]byte(a.name), []byte(b.name))
	})
	for place := range sorted {
		sorted[place].salt = saltByWords(seed, place)
	}
	return sorted
}

func saltByWords(seed uint64, place int) uint64 {
	round := new(big.Int).Lsh(big.NewInt(1), 64)
	number := func(n uint64) *big.Int { return new(big.Int).SetUint64(n) }
	times := func(a, b *big.Int) *big.Int { return a.Mod(a.Mul(a, b), round) }
	mix := func(s *big.Int, bits uint) *big.Int { return s.Xor(s, new(big.Int).Rsh(s, bits)) }
	s := times(number(11400714819323198485), number(uint64(place)+1))
	s.Mod(s.Add(s, number(seed)), round)
	s = times(mix(s, 30), number(13787848793156543929))
	s = times(mix(s, 27), number(10723151780598845931))
	return mix(s, 31).Uint64()
}

func newBook(t *testing.T, height int, seed uint64) *tithe.Book {
	t.Helper()
	b, e := tithe.New(api.Config{Height: height, Seed: seed})
	if b == nil || e != api.OK {
		t.Fatalf("P4: New of height %d: a book %v, error %d", height, b != nil, e)
	}
	return b
}

// bookOf has the accounts, opened in the order that they are given.
func bookOf(t *testing.T, height int, seed uint64, accounts []account) *tithe.Book {
	t.Helper()
	b := newBook(t, height, seed)
	for _, a := range accounts {
		says(t, "Open", b.Open(a.name), api.OK)
		says(t, "Pay", b.Pay(a.name, a.balance), api.OK)
	}
	return b
}

func says(t *testing.T, what string, got, want api.Errno) {
	t.Helper()
	if got != want {
		t.Errorf("%s: error %d, want %d", what, got, want)
	}
}

func holds(t *testing.T, b *tithe.Book, name string, want uint64) {
	t.Helper()
	if n, e := b.Balance(name); n != want || e != api.OK {
		t.Errorf("P5: Balance(%q) = %d, %d, want %d, 0", name, n, e, want)
	}
}

func lacks(t *testing.T, b *tithe.Book, name string) {
	t.Helper()
	if n, e := b.Balance(name); n != 0 || e != api.ErrUnknown {
		t.Errorf("P5: Balance(%q) = %d, %d, want 0, %d", name, n, e, api.ErrUnknown)
	}
}

func publishes(t *testing.T, b *tithe.Book, want string) {
	t.Helper()
	if r, e := b.Publish(); string(r) != want || e != api.OK {
		t.Errorf("P6: Publish() = %x, %d, want %x, 0", r, e, want)
	}
}

func proves(t *testing.T, b *tithe.Book, name, want string) {
	t.Helper()
	if p, e := b.Proof(name); string(p) != want || e != api.OK {
		t.Errorf("P6: Proof(%q) = %x, %d, want %x, 0", name, p, e, want)
	}
}

func provesNot(t *testing.T, b *tithe.Book, name string, want api.Errno) {
	t.Helper()
	if p, e := b.Proof(name); len(p) != 0 || e != want {
		t.Errorf("P6: Proof(%q) = %x, %d, want nothing, %d", name, p, e, want)
	}
}
