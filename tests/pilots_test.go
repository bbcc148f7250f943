package tests

import (
	"fmt"
	"math"
	"slices"
	"strings"
	"testing"

	"loop.example/spreadspectrum/impl"
)

// wantInt reports a number that is not the wanted one.
func wantInt(t *testing.T, call string, got, want int) {
	t.Helper()
	if got != want {
		t.Errorf("%s = %d, want %d", call, got, want)
	}
}

// wantBool reports a truth value that is not the wanted one.
func wantBool(t *testing.T, call string, got, want bool) {
	t.Helper()
	if got != want {
		t.Errorf("%s = %v, want %v", call, got, want)
	}
}

// wantNoAnswer reports results of the functions that look for a pilot at an offset, where the signal, the pilot or the offset is invalid.
func wantNoAnswer(t *testing.T, s []int, p impl.Pilot, offset int) {
	t.Helper()
	call := short("", p, offset, s)
	n, ok := impl.ScoreAt(s, p, offset)
	wantNoNumber(t, "ScoreAt"+call, n, ok)
	n, ok = impl.EarlyLate(s, p, offset)
	wantNoNumber(t, "EarlyLate"+call, n, ok)
	wantInt(t, "TrackStep"+call, impl.TrackStep(s, p, offset), -1)
	for _, steps := range []int{-1, 0, 3, 201} {
		wantList(t, "TrackPath"+call, impl.TrackPath(s, p, offset, steps), nil)
	}
	for _, threshold := range []int{math.MinInt, -1, 0} {
		wantBool(t, "LockedAt"+call, impl.LockedAt(s, p, offset, threshold), false)
		for _, periods := range []int{0, 1, 200} {
			for _, need := range []int{math.MinInt, -1, 0, 1} {
				wantBool(t, "VerifyOffset"+call, impl.VerifyOffset(s, p, offset, threshold, periods, need), false)
			}
		}
	}
}

// wantNoSearch reports results of the functions that look for a pilot at all offsets, where the signal or the pilot is invalid.
func wantNoSearch(t *testing.T, s []int, p impl.Pilot) {
	t.Helper()
	call := short("", p, s)
	wantList(t, "ScoreTable"+call, impl.ScoreTable(s, p), nil)
	wantInt(t, "BestOffset"+call, impl.BestOffset(s, p), -1)
	for _, threshold := range []int{math.MinInt, 0, math.MaxInt} {
		for _, step := range []int{0, 1, 8, 9} {
			wantInt(t, "FirstOffset"+call, impl.FirstOffset(s, p, step, threshold), -1)
			wantInt(t, "SearchTime"+call, impl.SearchTime(s, p, step, threshold), -1)
		}
	}
}

func TestPilotValid(t *testing.T) {
	for _, p := range somePilots() {
		wantBool(t, short("PilotValid", p), impl.PilotValid(p), true)
		wantInt(t, short("PilotLength", p), impl.PilotLength(p), lengthOf(p))
	}
	for _, p := range invalidPilots() {
		wantBool(t, short("PilotValid", p), impl.PilotValid(p), false)
		wantInt(t, short("PilotLength", p), impl.PilotLength(p), -1)
	}
	for _, c := range []struct {
		p    impl.Pilot
		want int
	}{
		{impl.Pilot{Code: "1", Over: 1}, 1}, {impl.Pilot{Code: "0", Over: 8}, 8}, {impl.Pilot{Code: "0", Over: 9}, -1}, {impl.Pilot{Code: "0"}, -1}, {impl.Pilot{Code: "1001011", Over: 2}, 14},
		// The longest period is shorter than a signal may be.
		{impl.Pilot{Code: strings.Repeat("0", 255), Over: 8}, 2040}, {impl.Pilot{Code: strings.Repeat("0", 255), Over: 9}, -1}, {impl.Pilot{Code: strings.Repeat("0", 256), Over: 8}, -1}, {impl.Pilot{Code: strings.Repeat("0", 256), Over: 1}, -1},
		{impl.Pilot{Code: strings.Repeat("0", 375), Over: 8}, -1}, {impl.Pilot{Code: strings.Repeat("0", 250), Over: 12}, -1},
	} {
		wantInt(t, short("PilotLength", c.p), impl.PilotLength(c.p), c.want)
		wantBool(t, short("PilotValid", c.p), impl.PilotValid(c.p), c.want >= 0)
	}
}

func TestPilotValidOfAllLengths(t *testing.T) {
	for length := range 258 {
		for over := -1; over <= 10; over++ {
			p := impl.Pilot{Code: strings.Repeat("1", length), Over: over}
			want := -1
			if length >= 1 && length <= 255 && over >= 1 && over <= 8 {
				want = length * over
			}
			wantInt(t, callOf("PilotLength", length, over), impl.PilotLength(p), want)
			wantBool(t, callOf("PilotValid", length, over), impl.PilotValid(p), want > 0)
		}
	}
}

func TestPilotSignal(t *testing.T) {
	for _, p := range somePilots() {
		n := lengthOf(p)
		for _, offset := range someOffsets(p) {
			for _, count := range []int{0, 1, n - 1, n, n + 1, 2999, 3000} {
				for _, gain := range []int{1, -3} {
					got, ok := impl.PilotSignal(p, offset, count, gain)
					wantSignal(t, short("PilotSignal", p, offset, count, gain), got, ok, pilotSent(p, offset, count, gain))
				}
			}
		}
	}
	p := impl.Pilot{Code: "011", Over: 3}
	for _, c := range []struct {
		offset, count, gain int
		want                []int
	}{
		{0, 10, 1, []int{1, 1, 1, -1, -1, -1, -1, -1, -1, 1}}, {1, 10, 1, []int{-1, 1, 1, 1, -1, -1, -1, -1, -1, -1}}, {8, 4, 5, []int{5, 5, -5, -5}}, {7, 4, -1, []int{-1, 1, 1, 1}}, {3, 7, 2, []int{-2, -2, -2, 2, 2, 2, -2}},
		{0, 0, 1, nil}, {8, 0, 1000, nil}, {0, 4, 0, []int{0, 0, 0, 0}}, {0, 4, 1000, []int{1000, 1000, 1000, -1000}}, {0, 4, -1000, []int{-1000, -1000, -1000, 1000}}, {5, 3000, 0, make([]int, 3000)},
	} {
		got, ok := impl.PilotSignal(p, c.offset, c.count, c.gain)
		wantSignal(t, callOf("PilotSignal", c.offset, c.count, c.gain), got, ok, c.want)
	}
	// A code of one chip with one sample has only the offset 0.
	got, ok := impl.PilotSignal(impl.Pilot{Code: "1", Over: 1}, 0, 3, 4)
	wantSignal(t, "PilotSignal of one chip", got, ok, []int{-4, -4, -4})
	got, ok = impl.PilotSignal(impl.Pilot{Code: "1", Over: 1}, 1, 3, 4)
	wantNoSignal(t, "PilotSignal of one chip", got, ok)
}

func TestNoPilotSignal(t *testing.T) {
	for _, p := range somePilots() {
		for _, offset := range noOffsets(p) {
			for _, count := range []int{0, 1, 3000} {
				got, ok := impl.PilotSignal(p, offset, count, 1)
				wantNoSignal(t, short("PilotSignal", p, offset, count), got, ok)
			}
		}
		for _, count := range []int{-1, 3001, -2, -3000, 3002, 1 << 32, math.MaxInt, math.MinInt} {
			for _, gain := range []int{0, 1, 1000} {
				got, ok := impl.PilotSignal(p, 0, count, gain)
				wantNoSignal(t, short("PilotSignal", p, count, gain), got, ok)
			}
		}
		for _, gain := range []int{1001, -1001, 1002, -5000, 1000000, 1 << 32, math.MaxInt, math.MinInt} {
			for _, count := range []int{0, 1, 3000} {
				got, ok := impl.PilotSignal(p, 0, count, gain)
				wantNoSignal(t, short("PilotSignal", p, count, gain), got, ok)
			}
		}
	}
	for _, p := range invalidPilots() {
		for _, offset := range []int{-1, 0, 1} {
			for _, count := range []int{-1, 0, 1, 3000} {
				got, ok := impl.PilotSignal(p, offset, count, 1)
				wantNoSignal(t, short("PilotSignal", p, offset, count), got, ok)
			}
		}
	}
}

func TestScores(t *testing.T) {
	for _, p := range somePilots() {
		for _, s := range signalsFor(p) {
			for _, offset := range someOffsets(p) {
				got, ok := impl.ScoreAt(s, p, offset)
				wantNumber(t, short("ScoreAt", p, offset, s), got, ok, score(s, p, 0, offset))
			}
			for _, offset := range noOffsets(p)[:2] {
				got, ok := impl.ScoreAt(s, p, offset)
				wantNoNumber(t, short("ScoreAt", p, offset, s), got, ok)
			}
			if lengthOf(p) > 400 && len(s) > 0 && s[0] != 1000000 {
				continue
			}
			want := scores(s, p)
			wantList(t, short("ScoreTable", p, s), impl.ScoreTable(s, p), want)
			wantInt(t, short("BestOffset", p, s), impl.BestOffset(s, p), slices.Index(want, slices.Max(want)))
		}
	}
}

func TestScoresByHand(t *testing.T) {
	p := impl.Pilot{Code: "011", Over: 1}
	for _, c := range []struct {
		s    []int
		want []int
		best int
	}{
		{nil, []int{0, 0, 0}, 0}, {[]int{5}, []int{5, -5, -5}, 0}, {[]int{-5}, []int{-5, 5, 5}, 1}, {[]int{1, 2}, []int{-1, 1, -3}, 1}, {[]int{1, 2, 4}, []int{-5, -3, 1}, 2}, {[]int{4, 2, 1}, []int{1, -3, -5}, 0},
		// What is behind one period does not count.
		{[]int{1, 2, 4, 1000000}, []int{-5, -3, 1}, 2}, {[]int{0, 0, 0, 7, 7, 7}, []int{0, 0, 0}, 0},
		{[]int{1000000, 1000000, 1000000}, []int{-1000000, -1000000, -1000000}, 0}, {[]int{1000000, -1000000, -1000000}, []int{3000000, -1000000, -1000000}, 0}, {[]int{-1, -1, 1}, []int{-1, -1, 3}, 2}, {[]int{0, 1, 1}, []int{-2, 0, 0}, 1},
	} {
		wantList(t, short("ScoreTable", c.s), impl.ScoreTable(c.s, p), c.want)
		wantInt(t, short("BestOffset", c.s), impl.BestOffset(c.s, p), c.best)
		for offset, want := range c.want {
			got, ok := impl.ScoreAt(c.s, p, offset)
			wantNumber(t, short("ScoreAt", c.s, offset), got, ok, want)
		}
	}
	// What is behind the length of a signal, though in its memory, does not belong to it.
	wantList(t, "ScoreTable of a part", impl.ScoreTable([]int{1, 2, 4}[:2], p), []int{-1, 1, -3})
	one := impl.Pilot{Code: "1", Over: 1}
	wantList(t, "ScoreTable of one chip", impl.ScoreTable([]int{3, 4}, one), []int{-3})
	wantInt(t, "BestOffset of one chip", impl.BestOffset([]int{3, 4}, one), 0)
	// The greatest score of all.
	long := impl.Pilot{Code: strings.Repeat("1", 255), Over: 8}
	n, ok := impl.ScoreAt(slices.Repeat([]int{-1000000}, 3000), long, 2039)
	wantNumber(t, "ScoreAt of the greatest samples", n, ok, 2040000000)
	n, ok = impl.ScoreAt(slices.Repeat([]int{1000000}, 3000), long, 0)
	wantNumber(t, "ScoreAt of the greatest samples", n, ok, -2040000000)
}

// TestBestOffsetOfEqualScores: the least one of several offsets is taken, also if all are equal.
func TestBestOffsetOfEqualScores(t *testing.T) {
	for _, c := range []struct {
		p      impl.Pilot
		offset int
		want   int
	}{
		{impl.Pilot{Code: "00", Over: 3}, 4, 0}, {impl.Pilot{Code: "1", Over: 8}, 7, 0}, {impl.Pilot{Code: "0101", Over: 1}, 3, 1}, {impl.Pilot{Code: "0101", Over: 2}, 6, 2}, {impl.Pilot{Code: "0101", Over: 2}, 5, 1}, {impl.Pilot{Code: "110110", Over: 3}, 17, 8}, {impl.Pilot{Code: strings.Repeat("110", 85), Over: 8}, 2039, 23},
	} {
		s, _ := impl.PilotSignal(c.p, c.offset, 3000, 1)
		wantInt(t, short("BestOffset", c.p, c.offset), impl.BestOffset(s, c.p), c.want)
		wantInt(t, short("BestOffset of no samples", c.p), impl.BestOffset(nil, c.p), 0)
	}
}

func TestInvalidSearches(t *testing.T) {
	for _, p := range invalidPilots() {
		for _, s := range [][]int{nil, {1, -2, 3}, make([]int, 3000), make([]int, 3001)} {
			wantNoSearch(t, s, p)
			for _, offset := range []int{-1, 0, 1, math.MinInt, math.MaxInt} {
				wantNoAnswer(t, s, p, offset)
			}
		}
	}
	for _, p := range []impl.Pilot{{Code: "1", Over: 1}, {Code: "1001011", Over: 2}, {Code: strings.Repeat("1", 255), Over: 8}} {
		for _, s := range invalidSignals() {
			wantNoSearch(t, s, p)
			wantNoAnswer(t, s, p, 0)
			wantNoAnswer(t, s, p, -1)
			wantNoAnswer(t, s, p, lengthOf(p)-1)
		}
		for _, offset := range noOffsets(p) {
			for _, s := range [][]int{nil, {1, -2, 3}, pilotSent(p, 0, 3000, 1)} {
				wantNoAnswer(t, s, p, offset)
			}
		}
	}
}

// checkSearch holds FirstOffset and SearchTime against the scores of all offsets.
func checkSearch(t *testing.T, s []int, p impl.Pilot, table []int, threshold int) {
	t.Helper()
	for step := 1; step <= 8; step++ {
		first, count := looked(table, step, threshold)
		wantInt(t, short("FirstOffset", p, step, threshold, s), impl.FirstOffset(s, p, step, threshold), first)
		wantInt(t, short("SearchTime", p, step, threshold, s), impl.SearchTime(s, p, step, threshold), count)
	}
}

func TestSearch(t *testing.T) {
	for _, p := range somePilots() {
		if lengthOf(p) > 400 {
			continue
		}
		for _, s := range signalsFor(p) {
			table := scores(s, p)
			most, least := slices.Max(table), slices.Min(table)
			for _, threshold := range []int{math.MinInt, least, least + 1, 0, (most + least) / 2, most, most + 1, math.MaxInt} {
				checkSearch(t, s, p, table, threshold)
			}
		}
	}
	long := impl.Pilot{Code: period(8, 29), Over: 8}
	s := pilotSent(long, 2039, 3000, -1)
	table := scores(s, long)
	for _, threshold := range []int{math.MinInt, -2040, 8, 9, math.MaxInt} {
		checkSearch(t, s, long, table, threshold)
	}
}

func TestSearchByHand(t *testing.T) {
	// The score is 14 for the offset 4, and -2 for all others.
	p := impl.Pilot{Code: "1001011", Over: 1}
	s := pilotSent(p, 4, 7, 2)
	for _, c := range []struct{ step, threshold, first, count int }{
		{1, 14, 4, 5}, {2, 14, 4, 3}, {3, 14, -1, 3}, {4, 14, 4, 2}, {5, 14, -1, 2}, {7, 14, -1, 1}, {8, 14, -1, 1}, {8, -2, 0, 1}, {7, -2, 0, 1}, {1, 15, -1, 7}, {2, 15, -1, 4}, {6, 15, -1, 2}, {1, -2, 0, 1}, {1, -1, 4, 5},
		{1, math.MinInt, 0, 1}, {8, math.MinInt, 0, 1}, {1, math.MaxInt, -1, 7}, {8, math.MaxInt, -1, 1},
	} {
		wantInt(t, callOf("FirstOffset", c.step, c.threshold), impl.FirstOffset(s, p, c.step, c.threshold), c.first)
		wantInt(t, callOf("SearchTime", c.step, c.threshold), impl.SearchTime(s, p, c.step, c.threshold), c.count)
	}
	for _, step := range noSteps {
		for _, threshold := range []int{math.MinInt, 0, 14, math.MaxInt} {
			for _, s := range [][]int{nil, s} {
				wantInt(t, callOf("FirstOffset", step, threshold), impl.FirstOffset(s, p, step, threshold), -1)
				wantInt(t, callOf("SearchTime", step, threshold), impl.SearchTime(s, p, step, threshold), -1)
			}
		}
	}
	// Steps that are greater than the period leave the offset 0.
	for step := 1; step <= 8; step++ {
		for n, chip := range map[int]string{1: "0", 2: "01"} {
			small := impl.Pilot{Code: chip, Over: 1}
			want := 1
			if step < n {
				want = n
			}
			wantInt(t, callOf("SearchTime", step, n), impl.SearchTime(nil, small, step, 1), want)
			wantInt(t, callOf("FirstOffset", step, n), impl.FirstOffset(nil, small, step, 1), -1)
			wantInt(t, callOf("SearchTime", step, n), impl.SearchTime(nil, small, step, 0), 1)
			wantInt(t, callOf("FirstOffset", step, n), impl.FirstOffset(nil, small, step, 0), 0)
		}
	}
}

func TestVerifyOffset(t *testing.T) {
	for _, p := range somePilots() {
		for _, s := range signalsFor(p) {
			for _, offset := range someOffsets(p)[:2] {
				most, _ := impl.ScoreAt(s, p, offset)
				for _, threshold := range []int{0, 1, most, most + 1} {
					for _, periods := range []int{0, 1, 2, 4} {
						want := reached(s, p, offset, threshold, periods)
						for _, need := range []int{want - 1, want, want + 1} {
							call := short("VerifyOffset", p, offset, threshold, periods, need, s)
							wantBool(t, call, impl.VerifyOffset(s, p, offset, threshold, periods, need), need <= want)
						}
					}
				}
			}
		}
	}
}

func TestVerifyOffsetByHand(t *testing.T) {
	p := impl.Pilot{Code: "01", Over: 1}
	// The scores of the periods for the offset 0 are 2, -2, 4, 1 (of one sample) and then 0.
	s := []int{1, -1, -1, 1, 2, -2, 1}
	for _, c := range []struct{ offset, threshold, periods, need, most int }{
		{0, 2, 200, 0, 2}, {0, 1, 200, 0, 3}, {0, 0, 200, 0, 199}, {0, -1, 200, 0, 199}, {0, -2, 200, 0, 200}, {0, 4, 2, 0, 0}, {0, 4, 3, 0, 1}, {0, 5, 200, 0, 0}, {0, 1, 3, 0, 2}, {0, 1, 4, 0, 3}, {0, 1, 5, 0, 3}, {0, 0, 5, 0, 4}, {0, 0, 0, 0, 0}, {0, 2, 1, 0, 1},
		{1, 2, 4, 0, 1}, {1, -1, 4, 0, 2}, {1, -4, 4, 0, 4}, {1, 0, 4, 0, 1}, {1, 0, 5, 0, 2}, {1, math.MinInt, 200, 0, 200}, {1, math.MaxInt, 200, 0, 0},
	} {
		for _, need := range []int{math.MinInt, -1, 0, 1, c.most - 1, c.most, c.most + 1, c.periods, c.periods + 1, 201, math.MaxInt} {
			got := impl.VerifyOffset(s, p, c.offset, c.threshold, c.periods, need)
			wantBool(t, callOf("VerifyOffset", c.offset, c.threshold, c.periods, need), got, need <= c.most)
		}
	}
	for _, periods := range noPeriods {
		for _, need := range []int{math.MinInt, -1, 0, 1, 200} {
			wantBool(t, callOf("VerifyOffset", periods, need), impl.VerifyOffset(s, p, 0, math.MinInt, periods, need), false)
			wantBool(t, callOf("VerifyOffset of no samples", periods, need), impl.VerifyOffset(nil, p, 0, math.MinInt, periods, need), false)
		}
	}
	// A signal of no samples has the score 0 in every period.
	for _, periods := range []int{0, 1, 199, 200} {
		wantBool(t, callOf("VerifyOffset of no samples", periods), impl.VerifyOffset(nil, p, 1, 0, periods, periods), true)
		wantBool(t, callOf("VerifyOffset of no samples", periods), impl.VerifyOffset(nil, p, 1, 0, periods, periods+1), false)
		wantBool(t, callOf("VerifyOffset of no samples", periods), impl.VerifyOffset(nil, p, 1, 1, periods, 1), false)
	}
}

func TestVerifyOffsetOfOwnSignals(t *testing.T) {
	for _, p := range somePilots() {
		n := lengthOf(p)
		for _, offset := range someOffsets(p) {
			s, _ := impl.PilotSignal(p, offset, 3000, 5)
			whole := min(3000/n, 200)
			call := short("VerifyOffset", p, offset)
			wantBool(t, call, impl.VerifyOffset(s, p, offset, 5*n, whole, whole), true)
			wantBool(t, call, impl.VerifyOffset(s, p, offset, 5*n+1, whole, 1), false)
			// A period that is not whole has a lower score.
			if 3000/n < 200 {
				wantBool(t, call, impl.VerifyOffset(s, p, offset, 5*n, 200, whole), true)
				wantBool(t, call, impl.VerifyOffset(s, p, offset, 5*n, 200, whole+1), false)
				wantBool(t, call, impl.VerifyOffset(s, p, offset, 5*(3000%n), 200, whole+1), true)
			}
		}
	}
}

func TestOffsetDistance(t *testing.T) {
	for _, p := range somePilots() {
		n := lengthOf(p)
		offsets := someOffsets(p)
		if n < 60 {
			offsets = signal(n, func(i int) int { return i })
		}
		for _, a := range offsets {
			for _, b := range offsets {
				// Counted up from a, and down from it.
				up, down := 0, 0
				for offset := a; offset != b; offset = ahead(p, offset, 1) {
					up++
				}
				for offset := a; offset != b; offset = ahead(p, offset, -1) {
					down++
				}
				wantInt(t, short("OffsetDistance", p, a, b), impl.OffsetDistance(p, a, b), min(up, down))
			}
			for _, b := range noOffsets(p) {
				wantInt(t, short("OffsetDistance", p, a, b), impl.OffsetDistance(p, a, b), -1)
				wantInt(t, short("OffsetDistance", p, b, a), impl.OffsetDistance(p, b, a), -1)
				wantInt(t, short("OffsetDistance", p, b, b), impl.OffsetDistance(p, b, b), -1)
			}
		}
	}
	even, odd := impl.Pilot{Code: "1001011", Over: 2}, impl.Pilot{Code: "1001011", Over: 1}
	for _, c := range []struct {
		p          impl.Pilot
		a, b, want int
	}{
		{even, 0, 13, 1}, {even, 13, 0, 1}, {even, 12, 2, 4}, {even, 0, 6, 6}, {even, 0, 7, 7}, {even, 0, 8, 6}, {even, 8, 0, 6}, {even, 5, 5, 0}, {even, 3, 10, 7}, {even, 10, 3, 7}, {even, 3, 11, 6}, {even, 13, 13, 0}, {even, 0, 14, -1}, {even, -1, 0, -1},
		{odd, 0, 6, 1}, {odd, 6, 0, 1}, {odd, 0, 3, 3}, {odd, 0, 4, 3}, {odd, 4, 0, 3}, {odd, 5, 1, 3}, {odd, 5, 2, 3}, {odd, 6, 6, 0}, {odd, 6, 7, -1}, {odd, 7, 6, -1},
		{impl.Pilot{Code: "1", Over: 1}, 0, 0, 0}, {impl.Pilot{Code: "1", Over: 1}, 0, 1, -1}, {impl.Pilot{Code: "1", Over: 2}, 1, 0, 1}, {impl.Pilot{Code: strings.Repeat("1", 255), Over: 8}, 0, 2039, 1}, {impl.Pilot{Code: strings.Repeat("1", 255), Over: 8}, 1030, 10, 1020},
	} {
		wantInt(t, short("OffsetDistance", c.p, c.a, c.b), impl.OffsetDistance(c.p, c.a, c.b), c.want)
	}
	for _, p := range invalidPilots() {
		for _, c := range [][2]int{{0, 0}, {-1, -1}, {0, 1}, {-2, 0}, {math.MinInt, math.MaxInt}} {
			wantInt(t, fmt.Sprintf("%s%v", short("OffsetDistance", p), c), impl.OffsetDistance(p, c[0], c[1]), -1)
		}
	}
}
