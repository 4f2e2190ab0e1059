package tithe

import (
	"maps"
	"slices"
	"strings"

	"tithe/api"
)

// Book is accounts.
type Book struct {
	height   int
	seed     uint64
	accounts map[string]*account
	sum      uint64 // all balances together, so that Pay need not go through them
	last     *tree  // of the last report; nil ahead of the first one
}

// account is pointed to from the map: to store a new value there would keep the
// caller's string as the key.
type account struct {
	balance uint64
}

// New makes a book without accounts (P4).
func New(c api.Config) (*Book, api.Errno) {
	if c.Height < 0 || c.Height > api.MaxHeight {
		return nil, api.ErrConfig
	}
	return &Book{height: c.Height, seed: c.Seed, accounts: map[string]*account{}}, api.OK
}

// Open makes an account (P5).
func (b *Book) Open(name string) api.Errno {
	if !isNameLength(len(name)) {
		return api.ErrName
	}
	if b.accounts[name] != nil {
		return api.ErrTwice
	}
	b.accounts[strings.Clone(name)] = &account{}
	return api.OK
}

// Close ends one (P5).
func (b *Book) Close(name string) api.Errno {
	a := b.accounts[name]
	if a == nil {
		return api.ErrUnknown
	}
	if a.balance != 0 {
		return api.ErrLeft
	}
	delete(b.accounts, name)
	return api.OK
}

// Pay puts money into one (P5).
func (b *Book) Pay(name string, n uint64) api.Errno {
	a := b.accounts[name]
	if a == nil {
		return api.ErrUnknown
	}
	sum, ok := add(b.sum, n)
	if !ok {
		return api.ErrRange
	}
	b.sum = sum
	a.balance += n
	return api.OK
}

// Draw takes it out (P5).
func (b *Book) Draw(name string, n uint64) api.Errno {
	a := b.accounts[name]
	if a == nil {
		return api.ErrUnknown
	}
	rest, ok := take(a.balance, n)
	if !ok {
		return api.ErrRange
	}
	b.sum -= n
	a.balance = rest
	return api.OK
}

// Move does so from one to another (P5).
func (b *Book) Move(from string, to string, n uint64) api.Errno {
	giver, taker := b.accounts[from], b.accounts[to]
	if giver == nil || taker == nil {
		return api.ErrUnknown
	}
	rest, ok := take(giver.balance, n)
	if !ok {
		return api.ErrRange
	}
	// In this order nothing changes if both are the same.
	giver.balance = rest
	taker.balance += n
	return api.OK
}

// Balance tells how much is in one (P5).
func (b *Book) Balance(name string) (uint64, api.Errno) {
	a := b.accounts[name]
	if a == nil {
		return 0, api.ErrUnknown
	}
	return a.balance, api.OK
}

// Publish makes a report (P6).
func (b *Book) Publish() ([]byte, api.Errno) {
	if len(b.accounts) > 1<<b.height {
		return nil, api.ErrFull
	}
	b.last = grow(b.leaves(), b.height)
	return writeReport(b.last.report()), api.OK
}

// leaves are in the order of their names as bytes, which is that of strings.
func (b *Book) leaves() []leaf {
	names := slices.Sorted(maps.Keys(b.accounts))
	leaves := make([]leaf, len(names))
	for place, name := range names {
		leaves[place] = leaf{name: name, balance: b.accounts[name].balance, salt: saltOf(b.seed, place)}
	}
	return leaves
}

// Proof makes a proof of an account, by the last report (P6).
func (b *Book) Proof(name string) ([]byte, api.Errno) {
	if b.last == nil {
		return nil, api.ErrReport
	}
	p, ok := b.last.proof(name)
	if !ok {
		return nil, api.ErrUnknown
	}
	return writeProof(p), api.OK
}
