package tests

import (
	"fmt"
	"iter"
	"math/big"
	"slices"
	"strings"
)

// at returns the bit of a sequence at any index; whole numbers without bounds hold also the sum of an index and the greatest int.
func at(s string, indexes ...int) byte {
	sum := new(big.Int)
	for _, i := range indexes {
		sum.Add(sum, big.NewInt(int64(i)))
	}
	return s[sum.Mod(sum, big.NewInt(int64(len(s)))).Int64()]
}

// shifted returns a sequence shifted by k, bit by bit.
func shifted(s string, k int) string {
	list := make([]byte, len(s))
	for i := range list {
		list[i] = at(s, i, k)
	}
	return string(list)
}

// rotations returns all shifts of a sequence from 0 on.
func rotations(s string) []string {
	var list []string
	for k := range len(s) {
		list = append(list, s[k:]+s[:k])
	}
	return list
}

// agreements returns in how many places two texts have the same bit, and in how many they do not.
func agreements(a, b string) (same, different int) {
	for i := range len(a) {
		if a[i] == b[i] {
			same++
		}
	}
	return same, len(a) - same
}

// correlation returns the correlation of two sequences for a shift.
func correlation(a, b string, k int) int {
	same, different := agreements(a, shifted(b, k))
	return same - different
}

// correlations returns those for all shifts of one period.
func correlations(a, b string) []int {
	var list []int
	for _, turn := range rotations(b) {
		same, different := agreements(a, turn)
		list = append(list, same-different)
	}
	return list
}

// runs returns the sorted lengths of all runs: each one is counted from the bit that differs from the one before it.
func runs(s string) []int {
	if strings.Count(s, s[:1]) == len(s) {
		return []int{len(s)}
	}
	var list []int
	for i := range len(s) {
		if at(s, i) == at(s, i, -1) {
			continue
		}
		length := 1
		for at(s, i, length) == at(s, i) {
			length++
		}
		list = append(list, length)
	}
	slices.Sort(list)
	return list
}

// sequencesOf ranges over all sequences of one length.
func sequencesOf(length int) iter.Seq[string] {
	return func(yield func(string) bool) {
		for n := range 1 << length {
			if !yield(fmt.Sprintf("%0*b", length, n)) {
				return
			}
		}
	}
}

// mixed returns bits without a plain order, others for each seed.
func mixed(length, seed int) string {
	list := make([]byte, length)
	for i := range list {
		list[i] = byte('0' + (i*i*i+seed*i*i+i/3+seed)%7%2)
	}
	return string(list)
}

// longSequences are sequences up to the greatest length.
func longSequences() []string {
	maximal := modelOf(longest).bits(255)
	return []string{
		maximal, maximal[:254], maximal[1:128],
		mixed(255, 1), mixed(255, 4), mixed(254, 2), mixed(200, 3), mixed(9, 1), mixed(16, 5), mixed(31, 6), mixed(100, 2),
		strings.Repeat("0", 255), strings.Repeat("1", 255), strings.Repeat("1", 254),
		strings.Repeat("0", 254) + "1", "1" + strings.Repeat("0", 254), strings.Repeat("1", 100) + "0" + strings.Repeat("1", 154),
		strings.Repeat("10", 127), strings.Repeat("110", 85), strings.Repeat("1001011", 36), strings.Repeat(mixed(51, 1), 5),
		"1" + strings.Repeat("01", 127),
	}
}

// someSequences ranges over all short sequences, and the long ones.
func someSequences() iter.Seq[string] {
	return func(yield func(string) bool) {
		for length := 1; length <= 8; length++ {
			for s := range sequencesOf(length) {
				if !yield(s) {
					return
				}
			}
		}
		for _, s := range longSequences() {
			if !yield(s) {
				return
			}
		}
	}
}

// somePairs ranges over all pairs of short sequences, and over pairs of long ones, of the same length.
func somePairs() iter.Seq2[string, string] {
	return func(yield func(a, b string) bool) {
		for length := 1; length <= 5; length++ {
			for a := range sequencesOf(length) {
				for b := range sequencesOf(length) {
					if !yield(a, b) {
						return
					}
				}
			}
		}
		for _, a := range longSequences() {
			for _, b := range []string{a, mixed(len(a), 5), shifted(a, 3), reversed(a)} {
				if !yield(a, b) || !yield(b, a) {
					return
				}
			}
		}
	}
}
