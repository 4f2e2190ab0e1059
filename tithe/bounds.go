package tithe

import "tithe/api"

// aboveMost stands for every number that is more than a sum may be.
const aboveMost = api.MaxSum + 1

// add answers false if both together are more than MaxSum. Each is cut first,
// so that they don't go round.
func add(sum, n uint64) (uint64, bool) {
	both := min(sum, aboveMost) + min(n, aboveMost)
	return both, both <= api.MaxSum
}

// take answers false if the balance is less than n. What is left then is 0: it
// doesn't go round either.
func take(balance, n uint64) (uint64, bool) {
	greater := max(balance, n)
	return greater - n, greater == balance
}
