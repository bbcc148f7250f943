package tests

import (
	"math"
	"math/rand/v2"
	"slices"
	"strings"

	"loop.example/spreadspectrum/impl"
)

// noOvers are numbers of samples that no chip has.
var noOvers = []int{0, 9, -1, 10, 16, -8, 3000, 1 << 32, math.MaxInt, math.MinInt}

// noSteps are steps that no search has.
var noSteps = []int{0, 9, -1, -8, 10, 3000, 1 << 32, math.MaxInt, math.MinInt}

// noPeriods are numbers of periods, or of steps of a loop, past their limits.
var noPeriods = []int{-1, -2, -200, 201, 202, 3000, 1 << 32, math.MaxInt, math.MinInt}

// lengthOf returns the number of samples of a period of a valid pilot.
func lengthOf(p impl.Pilot) int { return len(p.Code) * p.Over }

// wave returns one period of a valid pilot with an offset, as bits: each bit of the code as often as Over tells, all of them turned so that what stood at the index 0 stands at the offset.
func wave(p impl.Pilot, offset int) string {
	var bits strings.Builder
	for i := range len(p.Code) {
		bits.WriteString(strings.Repeat(p.Code[i:i+1], p.Over))
	}
	cut := lengthOf(p) - offset
	return bits.String()[cut:] + bits.String()[:cut]
}

// pilotSent returns the samples of a pilot with an offset, times a gain.
func pilotSent(p impl.Pilot, offset, count, gain int) []int {
	bits := wave(p, offset)
	return signal(count, func(i int) int { return gain * chipAt(bits, i%len(bits)) })
}

// score returns the score of the samples of a signal from an index on.
func score(s []int, p impl.Pilot, from, offset int) int {
	return product(s, wave(p, offset), from)
}

// scores returns the scores for all offsets.
func scores(s []int, p impl.Pilot) []int {
	return signal(lengthOf(p), func(offset int) int { return score(s, p, 0, offset) })
}

// ahead returns the offset that is d greater, or -d less, modulo the period: one by one.
func ahead(p impl.Pilot, offset, d int) int {
	for ; d > 0; d-- {
		offset++
		if offset == lengthOf(p) {
			offset = 0
		}
	}
	for ; d < 0; d++ {
		if offset == 0 {
			offset = lengthOf(p)
		}
		offset--
	}
	return offset
}

// reaches are how far a loop looks to both sides, for each Over.
var reaches = map[int]int{1: 1, 2: 1, 3: 1, 4: 2, 5: 2, 6: 3, 7: 3, 8: 4}

// lateMinusEarly returns the difference by which a loop is steered.
func lateMinusEarly(s []int, p impl.Pilot, offset int) int {
	h := reaches[p.Over]
	return score(s, p, 0, ahead(p, offset, h)) - score(s, p, 0, ahead(p, offset, -h))
}

// steered returns the offset of a loop after one step.
func steered(s []int, p impl.Pilot, offset int) int {
	switch d := lateMinusEarly(s, p, offset); {
	case d > 0:
		return ahead(p, offset, 1)
	case d < 0:
		return ahead(p, offset, -1)
	}
	return offset
}

// pathFrom returns the offsets of a loop.
func pathFrom(s []int, p impl.Pilot, offset, steps int) []int {
	list := []int{offset}
	for range steps {
		offset = steered(s, p, offset)
		list = append(list, offset)
	}
	return list
}

// looked returns the first offset of a search, or -1, and how many offsets it looks at.
func looked(table []int, step, threshold int) (first, count int) {
	for offset, value := range table {
		if offset%step != 0 {
			continue
		}
		count++
		if value >= threshold {
			return offset, count
		}
	}
	return -1, count
}

// reached returns in how many periods of a signal the score is not less than a threshold.
func reached(s []int, p impl.Pilot, offset, threshold, periods int) int {
	count := 0
	for i := range periods {
		if score(s, p, i*lengthOf(p), offset) >= threshold {
			count++
		}
	}
	return count
}

// somePilots returns valid pilots, of one chip and of the longest period among them.
func somePilots() []impl.Pilot {
	var list []impl.Pilot
	for _, code := range []string{"0", "1", "01", "110", "0101", "10010", "1001011", mixed(10, 3), mixed(31, 2)} {
		for over := 1; over <= 8; over++ {
			list = append(list, impl.Pilot{Code: code, Over: over})
		}
	}
	return append(list, longPilots()...)
}

// longPilots returns pilots with long periods.
func longPilots() []impl.Pilot {
	return []impl.Pilot{{Code: mixed(64, 1), Over: 5}, {Code: mixed(254, 4), Over: 1}, {Code: strings.Repeat("1", 255), Over: 8}, {Code: period(8, 29), Over: 8}, {Code: period(8, 29), Over: 3}}
}

// invalidPilots are invalid because of the code or of Over.
func invalidPilots() []impl.Pilot {
	list := []impl.Pilot{{}, {Over: 1}, {Code: "1001011"}}
	for _, over := range noOvers {
		list = append(list, impl.Pilot{Code: "1001011", Over: over}, impl.Pilot{Code: "0", Over: over}, impl.Pilot{Code: strings.Repeat("1", 255), Over: over})
	}
	for _, code := range invalidSequences {
		list = append(list, impl.Pilot{Code: code, Over: 1}, impl.Pilot{Code: code, Over: 8})
	}
	return list
}

// someOffsets returns offsets on both sides of both ends of the period, and some in between.
func someOffsets(p impl.Pilot) []int {
	n := lengthOf(p)
	list := []int{0, n - 1}
	for _, offset := range []int{1, 2, n / 3, n / 2, n - 2} {
		if offset > 0 && offset < n-1 {
			list = append(list, offset)
		}
	}
	return list
}

// noOffsets returns numbers that are no offsets of a valid pilot.
func noOffsets(p impl.Pilot) []int {
	n := lengthOf(p)
	return []int{-1, n, -2, n + 1, -n, 2 * n, 2*n - 1, 3000, -3000, 1 << 32, math.MaxInt, math.MaxInt - 1, math.MinInt, math.MinInt + 1}
}

// signalsFor returns signals without samples, shorter and longer than a period, with and without the pilot in them, and with the greatest samples.
func signalsFor(p impl.Pilot) [][]int {
	n := lengthOf(p)
	random := rand.New(rand.NewPCG(5, uint64(n)))
	list := [][]int{
		nil, {}, {0}, {-7}, make([]int, n), pilotSent(p, n/2, n-1, 1), pilotSent(p, 0, n, 1), pilotSent(p, n-1, n+1, -3), pilotSent(p, n/3, min(3*n+n/2, 3000), 1000),
		slices.Repeat([]int{1000000}, n), slices.Repeat([]int{-1000000}, 3000), pilotSent(p, n/4, 3000, 1000000), pilotSent(p, n/4, n/2, -1000000),
	}
	for _, length := range []int{1, n / 2, n, n + 1, min(2*n+3, 3000)} {
		for _, most := range []int{1, 1000000} {
			list = append(list, signal(length, func(int) int { return random.IntN(2*most+1) - most }))
		}
	}
	return list
}
