package tests

import (
	"math"
	"math/rand/v2"
	"slices"
	"strings"
	"testing"

	"loop.example/spreadspectrum/impl"
)

func TestEarlyLateAndTrackStep(t *testing.T) {
	for _, p := range somePilots() {
		for _, s := range signalsFor(p) {
			for _, offset := range someOffsets(p) {
				call := short("", p, offset, s)
				n, ok := impl.EarlyLate(s, p, offset)
				wantNumber(t, "EarlyLate"+call, n, ok, lateMinusEarly(s, p, offset))
				wantInt(t, "TrackStep"+call, impl.TrackStep(s, p, offset), steered(s, p, offset))
			}
			for _, offset := range noOffsets(p)[:2] {
				n, ok := impl.EarlyLate(s, p, offset)
				wantNoNumber(t, short("EarlyLate", p, offset, s), n, ok)
				wantInt(t, short("TrackStep", p, offset, s), impl.TrackStep(s, p, offset), -1)
			}
		}
	}
}

func TestEarlyLateByHand(t *testing.T) {
	// The scores of each signal are written beside it.
	three := func(over int) impl.Pilot { return impl.Pilot{Code: "011", Over: over} }
	for _, c := range []struct {
		s      []int
		p      impl.Pilot
		offset int
		want   int
		next   int
	}{
		// 1, 2, 4: -5, -3, 1
		{[]int{1, 2, 4}, three(1), 0, -4, 2}, {[]int{1, 2, 4}, three(1), 1, 6, 2}, {[]int{1, 2, 4}, three(1), 2, -2, 1},
		// 5: 5, -5, -5, so that both sides of the offset 0 are alike.
		{[]int{5}, three(1), 0, 0, 0}, {[]int{5}, three(1), 1, -10, 0}, {[]int{5}, three(1), 2, 10, 0},
		// The pilot itself with Over 2 and the offset 0: 6, 2, -2, -2, -2, 2
		{[]int{1, 1, -1, -1, -1, -1}, three(2), 0, 0, 0}, {[]int{1, 1, -1, -1, -1, -1}, three(2), 1, -8, 0}, {[]int{1, 1, -1, -1, -1, -1}, three(2), 5, 8, 0}, {[]int{1, 1, -1, -1, -1, -1}, three(2), 2, -4, 1}, {[]int{1, 1, -1, -1, -1, -1}, three(2), 3, 0, 3},
		// With Over 3, a loop looks one sample to each side, too: 9, 5, 1, -3, -3, -3, -3, 1, 5
		{pilotSent(three(3), 0, 9, 1), three(3), 0, 0, 0}, {pilotSent(three(3), 0, 9, 1), three(3), 8, 8, 0}, {pilotSent(three(3), 0, 9, 1), three(3), 1, -8, 0}, {pilotSent(three(3), 0, 9, 1), three(3), 3, -4, 2}, {pilotSent(three(3), 0, 9, 1), three(3), 6, 4, 7}, {pilotSent(three(3), 0, 9, 1), three(3), 4, 0, 4},
		// And with Over 4 two of them: 12, 8, 4, 0, -4, -4, -4, -4, -4, 0, 4, 8
		{pilotSent(three(4), 0, 12, 1), three(4), 0, 0, 0}, {pilotSent(three(4), 0, 12, 1), three(4), 1, -8, 0}, {pilotSent(three(4), 0, 12, 1), three(4), 11, 8, 0}, {pilotSent(three(4), 0, 12, 1), three(4), 2, -16, 1}, {pilotSent(three(4), 0, 12, 1), three(4), 5, -4, 4}, {pilotSent(three(4), 0, 12, 1), three(4), 6, 0, 6}, {pilotSent(three(4), 0, 12, 1), three(4), 7, 4, 8},
		// A signal of no samples, and pilots that are alike at all offsets or at both sides of each.
		{nil, three(1), 2, 0, 2}, {nil, three(8), 23, 0, 23}, {[]int{7, 1}, impl.Pilot{Code: "1", Over: 1}, 0, 0, 0}, {[]int{7, 1, 2}, impl.Pilot{Code: "1", Over: 8}, 7, 0, 7}, {[]int{7, 1}, impl.Pilot{Code: "01", Over: 1}, 0, 0, 0}, {[]int{7, 1}, impl.Pilot{Code: "01", Over: 1}, 1, 0, 1},
	} {
		got, ok := impl.EarlyLate(c.s, c.p, c.offset)
		wantNumber(t, short("EarlyLate", c.s, c.p, c.offset), got, ok, c.want)
		wantInt(t, short("TrackStep", c.s, c.p, c.offset), impl.TrackStep(c.s, c.p, c.offset), c.next)
	}
	// The greatest difference of all: one chip later, this pilot is its own opposite.
	p := impl.Pilot{Code: strings.Repeat("01", 127), Over: 8}
	for offset, want := range map[int]int{0: 4064000000, 8: -4064000000, 4: 0, 2028: 0, 2024: -4064000000} {
		got, ok := impl.EarlyLate(pilotSent(p, 4, 3000, 1000000), p, offset)
		wantNumber(t, callOf("EarlyLate of the greatest samples", offset), got, ok, want)
	}
}

func TestTrackPath(t *testing.T) {
	for _, p := range somePilots() {
		if lengthOf(p) > 400 {
			continue
		}
		for _, s := range signalsFor(p) {
			for _, offset := range someOffsets(p)[:2] {
				for _, steps := range []int{0, 1, 7} {
					got := impl.TrackPath(s, p, offset, steps)
					wantList(t, short("TrackPath", p, offset, steps, s), got, pathFrom(s, p, offset, steps))
				}
			}
			for _, steps := range noPeriods {
				wantList(t, short("TrackPath", p, steps, s), impl.TrackPath(s, p, 0, steps), nil)
			}
		}
	}
	// A ramp over the end of the period, both ways, for as many steps as there may be.
	p := impl.Pilot{Code: strings.Repeat("0", 60) + strings.Repeat("1", 60), Over: 2}
	s := pilotSent(p, 239, 240, 1)
	for _, offset := range []int{0, 40, 90, 120, 150, 200, 239} {
		for _, steps := range []int{0, 1, 199, 200} {
			got := impl.TrackPath(s, p, offset, steps)
			wantList(t, callOf("TrackPath", offset, steps), got, pathFrom(s, p, offset, steps))
			wantInt(t, callOf("the length of TrackPath", offset, steps), len(got), steps+1)
		}
	}
	for _, c := range []struct {
		offset, steps int
		want          []int
	}{{2, 4, []int{2, 1, 0, 239, 239}}, {0, 2, []int{0, 239, 239}}, {236, 5, []int{236, 237, 238, 239, 239, 239}}, {239, 1, []int{239, 239}}, {5, 0, []int{5}}, {119, 2, []int{119, 119, 119}}} {
		wantList(t, callOf("TrackPath", c.offset, c.steps), impl.TrackPath(s, p, c.offset, c.steps), c.want)
	}
	wantList(t, "TrackPath of no samples", impl.TrackPath(nil, p, 7, 200), slices.Repeat([]int{7}, 201))
	wantList(t, "TrackPath over the end", impl.TrackPath(pilotSent(p, 0, 240, 1), p, 238, 3), []int{238, 239, 0, 0})
}

func TestLockedAt(t *testing.T) {
	for _, p := range somePilots() {
		for _, s := range signalsFor(p) {
			for _, offset := range someOffsets(p) {
				stays := steered(s, p, offset) == offset
				value := score(s, p, 0, offset)
				for _, threshold := range []int{value, value + 1, value - 1, math.MinInt, math.MaxInt} {
					call := short("LockedAt", p, offset, threshold, s)
					wantBool(t, call, impl.LockedAt(s, p, offset, threshold), stays && value >= threshold)
				}
			}
		}
	}
	p := impl.Pilot{Code: "1001011", Over: 2}
	s := pilotSent(p, 13, 14, 3)
	for _, c := range []struct {
		offset, threshold int
		want              bool
	}{
		{13, 42, true}, {13, 43, false}, {13, math.MinInt, true}, {13, math.MaxInt, false}, {12, 18, false}, {12, math.MinInt, false}, {0, 18, false}, {0, -1000, false}, {1, math.MinInt, false}, {5, -6, true}, {5, -5, false}, {14, math.MinInt, false}, {-1, math.MinInt, false},
	} {
		wantBool(t, callOf("LockedAt", c.offset, c.threshold), impl.LockedAt(s, p, c.offset, c.threshold), c.want)
	}
	wantBool(t, "LockedAt of no samples", impl.LockedAt(nil, p, 3, 0), true)
	wantBool(t, "LockedAt of no samples", impl.LockedAt(nil, p, 3, 1), false)
}

// indexesFor returns the indexes at the ends and within a signal.
func indexesFor(s []int) []int {
	list := []int{}
	for _, at := range []int{0, 1, len(s) / 2, len(s) - 2, len(s) - 1} {
		if at >= 0 && at < len(s) {
			list = append(list, at)
		}
	}
	return list
}

func TestDropAndRepeatSample(t *testing.T) {
	for _, s := range someSignals() {
		for _, at := range indexesFor(s) {
			less := signal(len(s)-1, func(i int) int {
				if i < at {
					return s[i]
				}
				return s[i+1]
			})
			more := signal(len(s)+1, func(i int) int {
				if i <= at {
					return s[i]
				}
				return s[i-1]
			})
			got, ok := impl.DropSample(s, at)
			wantSignal(t, short("DropSample", at, s), got, ok, less)
			got, ok = impl.RepeatSample(s, at)
			if len(s) == 3000 {
				wantNoSignal(t, short("RepeatSample", at, s), got, ok)
				continue
			}
			wantSignal(t, short("RepeatSample", at, s), got, ok, more)
			for _, place := range []int{at, at + 1} {
				back, ok := impl.DropSample(got, place)
				wantSignal(t, short("DropSample RepeatSample", at, s), back, ok, s)
			}
		}
		for _, at := range []int{-1, len(s), -2, len(s) + 1, -len(s) - 1, 3000, 1 << 32, math.MaxInt, math.MinInt} {
			got, ok := impl.DropSample(s, at)
			wantNoSignal(t, short("DropSample", at, s), got, ok)
			got, ok = impl.RepeatSample(s, at)
			wantNoSignal(t, short("RepeatSample", at, s), got, ok)
		}
	}
	for _, s := range invalidSignals() {
		for _, at := range []int{-1, 0, len(s) / 2, len(s) - 1, len(s)} {
			got, ok := impl.DropSample(s, at)
			wantNoSignal(t, short("DropSample", at, s), got, ok)
			got, ok = impl.RepeatSample(s, at)
			wantNoSignal(t, short("RepeatSample", at, s), got, ok)
		}
	}
}

func TestDropAndRepeatSampleByHand(t *testing.T) {
	for _, c := range []struct {
		s           []int
		at          int
		less, twice []int
	}{
		{[]int{5}, 0, nil, []int{5, 5}}, {[]int{1, -2, 3}, 0, []int{-2, 3}, []int{1, 1, -2, 3}}, {[]int{1, -2, 3}, 1, []int{1, 3}, []int{1, -2, -2, 3}}, {[]int{1, -2, 3}, 2, []int{1, -2}, []int{1, -2, 3, 3}},
		{[]int{1000000, -1000000}, 1, []int{1000000}, []int{1000000, -1000000, -1000000}},
	} {
		got, ok := impl.DropSample(c.s, c.at)
		wantSignal(t, short("DropSample", c.at, c.s), got, ok, c.less)
		got, ok = impl.RepeatSample(c.s, c.at)
		wantSignal(t, short("RepeatSample", c.at, c.s), got, ok, c.twice)
	}
	for length, want := range map[int]bool{2998: true, 2999: true, 3000: false} {
		s := signal(length, func(i int) int { return i })
		for _, at := range []int{0, 17, length - 1} {
			got, ok := impl.DropSample(s, at)
			wantSignal(t, callOf("DropSample", length, at), got, ok, slices.Concat(s[:at], s[at+1:]))
			got, ok = impl.RepeatSample(s, at)
			if want {
				wantSignal(t, callOf("RepeatSample", length, at), got, ok, slices.Concat(s[:at], s[at:at+1], s[at:]))
			} else {
				wantNoSignal(t, callOf("RepeatSample", length, at), got, ok)
			}
		}
	}
	// What is behind the length of a signal, though in its memory, does not belong to it.
	s := []int{1, 2, 3, 4}
	got, ok := impl.DropSample(s[:2], 2)
	wantNoSignal(t, "DropSample past the length", got, ok)
	got, ok = impl.RepeatSample(s[:2], 3)
	wantNoSignal(t, "RepeatSample past the length", got, ok)
}

// maximalPilots returns a pilot for each maximal sequence and each Over.
func maximalPilots() []impl.Pilot {
	var list []impl.Pilot
	for size := 2; size <= 8; size++ {
		taps := maximalTaps(size)
		if size > 6 {
			taps = taps[:4]
		}
		for _, of := range taps {
			for over := 1; over <= 8; over++ {
				list = append(list, impl.Pilot{Code: period(size, of), Over: over})
			}
		}
	}
	return list
}

// distance returns by how much the first one of two numbers of one period is greater or less, whichever way is shorter.
func distance(a, b, n int) int {
	d := a - b
	if d < 0 {
		d = -d
	}
	return min(d, n-d)
}

// TestScoreFallsEvenly is the first half of promise 5: within a chip of the true offset, the score falls by the length of the code plus 1 from offset to offset, on both sides, and further away it stays the same.
func TestScoreFallsEvenly(t *testing.T) {
	for _, p := range maximalPilots() {
		n, length := lengthOf(p), len(p.Code)
		for _, gain := range []int{1, 1000} {
			for _, offset := range []int{0, n / 3, n - 1} {
				s, _ := impl.PilotSignal(p, offset, min(n+gain, 3000), gain)
				want := signal(n, func(i int) int { return gain * (n - min(distance(i, offset, n), p.Over)*(length+1)) })
				call := short("", p, offset, gain)
				wantList(t, "ScoreTable"+call, impl.ScoreTable(s, p), want)
				wantInt(t, "BestOffset"+call, impl.BestOffset(s, p), offset)
				wantInt(t, "FirstOffset"+call, impl.FirstOffset(s, p, 1, gain*n), offset)
				wantInt(t, "SearchTime"+call, impl.SearchTime(s, p, 1, gain*n), offset+1)
			}
		}
	}
}

// TestLoopFindsTrueOffset is the second half of promise 5: from each offset within a chip a loop takes the shortest way to the true one, and stays there.
func TestLoopFindsTrueOffset(t *testing.T) {
	for _, p := range maximalPilots() {
		n := lengthOf(p)
		for _, offset := range []int{0, n / 2, n - 1} {
			s, _ := impl.PilotSignal(p, offset, n, 2)
			for d := -p.Over; d <= p.Over; d++ {
				start := ahead(p, offset, d)
				steps := p.Over + 2
				want := signal(steps+1, func(i int) int {
					if d < 0 {
						return ahead(p, offset, min(d+i, 0))
					}
					return ahead(p, offset, max(d-i, 0))
				})
				call := short("", p, offset, start)
				wantList(t, "TrackPath"+call, impl.TrackPath(s, p, start, steps), want)
				wantBool(t, "LockedAt"+call, impl.LockedAt(s, p, start, 2*n-p.Over*2*(len(p.Code)+1)), d == 0)
				wantInt(t, "OffsetDistance"+call, impl.OffsetDistance(p, start, offset), distance(start, offset, n))
			}
			wantBool(t, short("LockedAt", p, offset), impl.LockedAt(s, p, offset, 2*n), true)
			wantBool(t, short("LockedAt", p, offset), impl.LockedAt(s, p, offset, 2*n+1), false)
		}
	}
}

// TestSearchAndLoopTogether: a search by whole chips comes near enough for a loop, whatever the true offset is.
func TestSearchAndLoopTogether(t *testing.T) {
	random := rand.New(rand.NewPCG(5, 1))
	for _, p := range maximalPilots() {
		n := lengthOf(p)
		for range 4 {
			offset := random.IntN(n)
			s, _ := impl.PilotSignal(p, offset, min(2*n, 3000), 1)
			threshold := n - p.Over/2*(len(p.Code)+1)
			near := impl.FirstOffset(s, p, p.Over, threshold)
			call := short("", p, offset)
			if near < 0 || impl.OffsetDistance(p, near, offset) > p.Over/2 {
				t.Errorf("FirstOffset%s = %d", call, near)
				continue
			}
			path := impl.TrackPath(s, p, near, p.Over)
			wantInt(t, "the end of TrackPath"+call, path[len(path)-1], offset)
			wantBool(t, "LockedAt"+call, impl.LockedAt(s, p, offset, n), true)
			wantBool(t, "VerifyOffset"+call, impl.VerifyOffset(s, p, offset, n, 1, 1), true)
		}
	}
}

// TestLoopFollowsSlips: a sample that is lost or comes twice moves the true offset by one, and the loop goes after it.
func TestLoopFollowsSlips(t *testing.T) {
	for _, p := range []impl.Pilot{{Code: period(5, 5), Over: 2}, {Code: period(4, 3), Over: 5}, {Code: period(6, 3), Over: 8}, {Code: period(3, 3), Over: 3}} {
		n := lengthOf(p)
		for _, offset := range []int{0, 1, n / 2, n - 2, n - 1} {
			s, _ := impl.PilotSignal(p, offset, 2*n, 9)
			less, lost := impl.DropSample(s, 0)
			more, came := impl.RepeatSample(s, 0)
			if !lost || !came {
				t.Fatalf("%s: no slip", short("signal", p, offset))
			}
			before, behind := ahead(p, offset, -1), ahead(p, offset, 1)
			wantList(t, short("TrackPath of a lost sample", p, offset), impl.TrackPath(less, p, offset, 3), []int{offset, before, before, before})
			wantInt(t, short("BestOffset of a lost sample", p, offset), impl.BestOffset(less, p), before)
			wantInt(t, short("TrackStep of a sample twice", p, offset), impl.TrackStep(more, p, offset), behind)
			wantInt(t, short("BestOffset of a sample twice", p, offset), impl.BestOffset(more, p), behind)
		}
	}
}

func TestExampleOfTracking(t *testing.T) {
	p := impl.Pilot{Code: "1001011", Over: 2}
	s, ok := impl.PilotSignal(p, 0, 14, 1)
	wantSignal(t, "PilotSignal", s, ok, []int{-1, -1, 1, 1, 1, 1, -1, -1, 1, 1, -1, -1, -1, -1})
	wantList(t, "ScoreTable", impl.ScoreTable(s, p), []int{14, 6, -2, -2, -2, -2, -2, -2, -2, -2, -2, -2, -2, 6})
	wantInt(t, "BestOffset", impl.BestOffset(s, p), 0)
	for offset, want := range map[int]int{0: 14, 1: 6, 2: -2, 12: -2, 13: 6} {
		got, ok := impl.ScoreAt(s, p, offset)
		wantNumber(t, callOf("ScoreAt", offset), got, ok, want)
	}
}

func TestTrackingResultsAreNew(t *testing.T) {
	s, p := []int{1, -2, 3, 0, -1}, impl.Pilot{Code: "1001011", Over: 2}
	all := func(list []int) ([]int, bool) { return list, true }
	calls := map[string]func() ([]int, bool){
		"PilotSignal":        func() ([]int, bool) { return impl.PilotSignal(p, 3, 20, 1) },
		"PilotSignal, none":  func() ([]int, bool) { return impl.PilotSignal(p, 3, 0, 1) },
		"ScoreTable":         func() ([]int, bool) { return all(impl.ScoreTable(s, p)) },
		"TrackPath":          func() ([]int, bool) { return all(impl.TrackPath(s, p, 3, 20)) },
		"TrackPath, 0 steps": func() ([]int, bool) { return all(impl.TrackPath(s, p, 3, 0)) },
		"DropSample, first":  func() ([]int, bool) { return impl.DropSample(s, 0) },
		"DropSample":         func() ([]int, bool) { return impl.DropSample(s, 2) },
		"DropSample, last":   func() ([]int, bool) { return impl.DropSample(s, 4) },
		"DropSample, only":   func() ([]int, bool) { return impl.DropSample(s[:1], 0) },
		"RepeatSample":       func() ([]int, bool) { return impl.RepeatSample(s, 2) },
		"RepeatSample, last": func() ([]int, bool) { return impl.RepeatSample(s[:3], 2) },
	}
	wantNewResults(t, calls, s)
}

// TestTrackingArgumentsStay looks for changes of arguments and of the memory behind them.
func TestTrackingArgumentsStay(t *testing.T) {
	all, before := []int{4, -5, 6, 1, -1, 77, -88, 99}, []int{4, -5, 6, 1, -1, 77, -88, 99}
	s, p := all[:5], impl.Pilot{Code: "110", Over: 2}
	impl.ScoreAt(s, p, 1)
	impl.ScoreTable(s, p)
	impl.BestOffset(s, p)
	impl.FirstOffset(s, p, 1, 1000)
	impl.SearchTime(s, p, 2, 1000)
	impl.VerifyOffset(s, p, 1, 0, 3, 1)
	impl.EarlyLate(s, p, 5)
	impl.TrackStep(s, p, 5)
	impl.TrackPath(s, p, 0, 9)
	impl.LockedAt(s, p, 0, 0)
	for at := range s {
		impl.DropSample(s, at)
		impl.RepeatSample(s, at)
		impl.DropSample(s[:at], at)
		impl.RepeatSample(s[:at], at-1)
	}
	wantList(t, "the argument", all, before)
}
