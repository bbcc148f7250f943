package tests

import (
	"fmt"
	"math"
	"math/rand/v2"
	"slices"
	"testing"

	"loop.example/spreadspectrum/impl"
)

// primes are the prime numbers of channels.
var primes = []int{2, 3, 5, 7, 11, 13}

// wantNoMeeting reports a result of HopCollisions or WorstCollisions that is not -1.
func wantNoMeeting(t *testing.T, a, b []int, k int) {
	t.Helper()
	wantInt(t, short("HopCollisions", k, a, b), impl.HopCollisions(a, b, k), -1)
	wantInt(t, short("WorstCollisions", a, b), impl.WorstCollisions([][]int{a, b}), -1)
}

func TestHopsValid(t *testing.T) {
	for channels := 1; channels <= 16; channels++ {
		for _, h := range someHops(channels) {
			wantBool(t, short("HopsValid", channels, h), impl.HopsValid(h, channels), true)
		}
		for _, h := range invalidHops(channels) {
			wantBool(t, short("HopsValid", channels, h), impl.HopsValid(h, channels), false)
		}
		for length, want := range map[int]bool{0: true, 1: true, 299: true, 300: true, 301: false, 302: false} {
			wantBool(t, callOf("HopsValid", length, channels), impl.HopsValid(make([]int, length), channels), want)
		}
	}
	for _, channels := range noChannels {
		for _, h := range [][]int{nil, {}, {0}, {-1}, {channels - 1}, {channels}, make([]int, 300), make([]int, 301)} {
			wantBool(t, short("HopsValid", channels, h), impl.HopsValid(h, channels), false)
		}
	}
	for channels := -2; channels <= 18; channels++ {
		for _, hop := range []int{-2, -1, 0, 1, channels - 1, channels, channels + 1, 15, 16, 17, math.MaxInt, math.MinInt} {
			want := channels >= 1 && channels <= 16 && hop >= 0 && hop < channels
			for _, h := range [][]int{{hop}, {hop, 0}, {0, hop}, {0, 0, hop, 0}} {
				wantBool(t, short("HopsValid", channels, h), impl.HopsValid(h, channels), want)
			}
		}
	}
}

func TestHopSequence(t *testing.T) {
	for size, taps := range allTaps() {
		for channels := 1; channels <= 16; channels++ {
			r := impl.Register{Size: size, Taps: taps, State: (taps*37 + channels*11) % (1 << size)}
			count := (taps + channels) % 12
			got, ok := impl.HopSequence(r, channels, count)
			wantSignal(t, short("HopSequence", r, channels, count), got, ok, registerHops(r, channels, count))
		}
	}
	for _, r := range someRegisters() {
		for channels := 1; channels <= 16; channels++ {
			for _, count := range []int{0, 1, 2, 299, 300} {
				got, ok := impl.HopSequence(r, channels, count)
				wantSignal(t, short("HopSequence", r, channels, count), got, ok, registerHops(r, channels, count))
				wantBool(t, short("HopsValid of HopSequence", r, channels, count), impl.HopsValid(got, channels), true)
			}
		}
	}
	// The bits of 3 3 1 are 1001011 and again, so that its states, three steps apart, are 1, 5, 3, 2, 7, 4, 6 and 1 again.
	r := impl.Register{Size: 3, Taps: 3, State: 1}
	for channels, want := range map[int][]int{16: {1, 5, 3, 2, 7, 4, 6, 1, 5}, 8: {1, 5, 3, 2, 7, 4, 6, 1, 5}, 7: {1, 5, 3, 2, 0, 4, 6, 1, 5}, 4: {1, 1, 3, 2, 3, 0, 2, 1, 1}, 3: {1, 2, 0, 2, 1, 1, 0, 1, 2}, 2: {1, 1, 1, 0, 1, 0, 0, 1, 1}, 1: make([]int, 9)} {
		for count := range 10 {
			got, ok := impl.HopSequence(r, channels, count)
			wantSignal(t, callOf("HopSequence", channels, count), got, ok, want[:count])
		}
	}
	got, ok := impl.HopSequence(impl.Register{Size: 8, Taps: 29}, 16, 300)
	wantSignal(t, "HopSequence of the state 0", got, ok, make([]int, 300))
	got, ok = impl.HopSequence(impl.Register{Size: 8, Taps: 128, State: 255}, 16, 3)
	wantSignal(t, "HopSequence", got, ok, []int{15, 15, 15})
	got, ok = impl.HopSequence(impl.Register{Size: 8, Taps: 128, State: 255}, 14, 3)
	wantSignal(t, "HopSequence", got, ok, []int{3, 3, 3})
}

func TestNoHopSequence(t *testing.T) {
	for _, r := range invalidRegisters {
		for _, channels := range []int{0, 1, 8, 16, 17} {
			for _, count := range []int{-1, 0, 1, 300, 301} {
				got, ok := impl.HopSequence(r, channels, count)
				wantNoSignal(t, short("HopSequence", r, channels, count), got, ok)
			}
		}
	}
	for _, r := range someRegisters() {
		for _, channels := range noChannels {
			for _, count := range []int{0, 1, 4, 300} {
				got, ok := impl.HopSequence(r, channels, count)
				wantNoSignal(t, short("HopSequence", r, channels, count), got, ok)
			}
		}
		for _, count := range noHopCounts {
			for _, channels := range []int{0, 1, 8, 16, 17} {
				got, ok := impl.HopSequence(r, channels, count)
				wantNoSignal(t, short("HopSequence", r, channels, count), got, ok)
			}
		}
	}
}

func TestLinearHops(t *testing.T) {
	for channels := 1; channels <= 16; channels++ {
		for user := range channels {
			for _, count := range []int{0, 1, 2, channels, 20, 299, 300} {
				got, ok := impl.LinearHops(channels, user, count)
				wantSignal(t, callOf("LinearHops", channels, user, count), got, ok, linear(channels, user, count))
				wantBool(t, callOf("HopsValid of LinearHops", channels, user, count), impl.HopsValid(got, channels), true)
			}
		}
		for _, user := range []int{-1, channels, -2, channels + 1, -channels, 16, 17, 1 << 32, math.MaxInt, math.MinInt} {
			for _, count := range []int{0, 1, 300} {
				got, ok := impl.LinearHops(channels, user, count)
				wantNoSignal(t, callOf("LinearHops", channels, user, count), got, ok)
			}
		}
		for _, count := range noHopCounts {
			for _, user := range []int{0, channels - 1} {
				got, ok := impl.LinearHops(channels, user, count)
				wantNoSignal(t, callOf("LinearHops", channels, user, count), got, ok)
			}
		}
	}
	for _, channels := range noChannels {
		for _, user := range []int{-1, 0, 1, channels - 1, channels} {
			got, ok := impl.LinearHops(channels, user, 4)
			wantNoSignal(t, callOf("LinearHops", channels, user), got, ok)
		}
	}
	for _, c := range []struct {
		channels, user, count int
		want                  []int
	}{
		{1, 0, 3, []int{0, 0, 0}}, {5, 1, 7, []int{0, 1, 2, 3, 4, 0, 1}}, {5, 2, 5, []int{0, 2, 4, 1, 3}}, {5, 0, 3, []int{0, 0, 0}}, {5, 4, 6, []int{0, 4, 3, 2, 1, 0}},
		{16, 15, 4, []int{0, 15, 14, 13}}, {16, 8, 5, []int{0, 8, 0, 8, 0}}, {2, 1, 3, []int{0, 1, 0}}, {13, 12, 0, nil},
	} {
		got, ok := impl.LinearHops(c.channels, c.user, c.count)
		wantSignal(t, callOf("LinearHops", c.channels, c.user, c.count), got, ok, c.want)
	}
}

func TestShiftHops(t *testing.T) {
	for _, channels := range []int{1, 2, 5, 16} {
		for _, h := range someHops(channels) {
			for _, k := range shiftsOf(len(h)) {
				got, ok := impl.ShiftHops(h, k)
				if len(h) == 0 {
					wantNoSignal(t, short("ShiftHops", k, h), got, ok)
					continue
				}
				wantSignal(t, short("ShiftHops", k, h), got, ok, channelsOf(shifted(letters(h), k)))
			}
		}
	}
	for _, h := range invalidHops(16) {
		for _, k := range []int{0, 1, -1, math.MaxInt, math.MinInt} {
			got, ok := impl.ShiftHops(h, k)
			wantNoSignal(t, short("ShiftHops", k, h), got, ok)
		}
	}
	h := []int{0, 2, 4, 1, 15}
	for k, want := range map[int][]int{0: {0, 2, 4, 1, 15}, 1: {2, 4, 1, 15, 0}, 4: {15, 0, 2, 4, 1}, 5: {0, 2, 4, 1, 15}, 7: {4, 1, 15, 0, 2}, -1: {15, 0, 2, 4, 1}, -5: {0, 2, 4, 1, 15}, -6: {15, 0, 2, 4, 1}, math.MaxInt: {4, 1, 15, 0, 2}, math.MinInt: {4, 1, 15, 0, 2}} {
		got, ok := impl.ShiftHops(h, k)
		wantSignal(t, callOf("ShiftHops", k), got, ok, want)
	}
	for _, k := range shiftsOf(1) {
		got, ok := impl.ShiftHops([]int{15}, k)
		wantSignal(t, callOf("ShiftHops of one hop", k), got, ok, []int{15})
	}
}

func TestMoveHops(t *testing.T) {
	for channels := 1; channels <= 16; channels++ {
		for _, h := range someHops(channels) {
			for d := -16; d <= 16; d++ {
				got, ok := impl.MoveHops(h, channels, d)
				wantSignal(t, short("MoveHops", channels, d, h), got, ok, signal(len(h), func(i int) int { return up(h[i], channels, d) }))
			}
			for _, d := range []int{-17, 17, -18, 18, 32, -32, 1 << 32, math.MaxInt, math.MinInt} {
				got, ok := impl.MoveHops(h, channels, d)
				wantNoSignal(t, short("MoveHops", channels, d, h), got, ok)
			}
		}
		for _, h := range invalidHops(channels) {
			for _, d := range []int{-17, -16, -1, 0, 1, 16, 17, math.MaxInt, math.MinInt} {
				got, ok := impl.MoveHops(h, channels, d)
				wantNoSignal(t, short("MoveHops", channels, d, h), got, ok)
			}
		}
	}
	for _, channels := range noChannels {
		for _, h := range [][]int{nil, {0}, {channels - 1}} {
			for _, d := range []int{-16, 0, 16} {
				got, ok := impl.MoveHops(h, channels, d)
				wantNoSignal(t, short("MoveHops", channels, d, h), got, ok)
			}
		}
	}
	for _, c := range []struct {
		h           []int
		channels, d int
		want        []int
	}{
		{[]int{0, 2, 4, 1, 3}, 5, -1, []int{4, 1, 3, 0, 2}}, {[]int{0, 2, 4, 1, 3}, 5, 16, []int{1, 3, 0, 2, 4}}, {[]int{0, 2, 4, 1, 3}, 5, -16, []int{4, 1, 3, 0, 2}}, {[]int{0, 15}, 16, 16, []int{0, 15}},
		{[]int{0, 15}, 16, -16, []int{0, 15}}, {[]int{0, 15}, 16, 1, []int{1, 0}}, {[]int{0, 0}, 1, -16, []int{0, 0}}, {[]int{0, 2}, 3, 0, []int{0, 2}}, {nil, 3, 2, nil},
	} {
		got, ok := impl.MoveHops(c.h, c.channels, c.d)
		wantSignal(t, short("MoveHops", c.channels, c.d, c.h), got, ok, c.want)
	}
}

func TestHopCollisions(t *testing.T) {
	random := rand.New(rand.NewPCG(7, 201))
	for _, channels := range []int{1, 2, 3, 5, 16} {
		for _, a := range someHops(channels) {
			if len(a) == 0 {
				continue
			}
			for _, b := range [][]int{a, randomHops(random, channels, len(a)), make([]int, len(a))} {
				for _, k := range shiftsOf(len(a)) {
					wantInt(t, short("HopCollisions", k, a, b), impl.HopCollisions(a, b, k), meetings(a, b, k))
				}
			}
		}
	}
	for _, c := range []struct {
		a, b    []int
		k, want int
	}{
		{[]int{3}, []int{3}, math.MaxInt, 1}, {[]int{3}, []int{4}, 0, 0}, {[]int{1, 2, 3}, []int{1, 2, 3}, 0, 3}, {[]int{1, 2, 3}, []int{1, 2, 3}, 1, 0}, {[]int{1, 2, 3}, []int{2, 3, 1}, -1, 3}, {[]int{1, 2, 3}, []int{2, 3, 1}, 1, 0},
		{[]int{1, 2, 3}, []int{2, 3, 1}, 2, 3}, {[]int{1, 2, 3}, []int{3, 1, 2}, math.MinInt, 3}, {[]int{1, 2, 3}, []int{3, 1, 2}, math.MinInt + 1, 0}, {[]int{1, 2, 3}, []int{3, 1, 2}, math.MaxInt, 3}, {[]int{15, 0, 15, 0}, []int{0, 15, 0, 0}, 1, 3},
		{make([]int, 300), make([]int, 300), -7, 300},
	} {
		wantInt(t, short("HopCollisions", c.k, c.a, c.b), impl.HopCollisions(c.a, c.b, c.k), c.want)
	}
}

func TestNoMeetings(t *testing.T) {
	for _, k := range []int{0, 1, -1, 300, math.MaxInt, math.MinInt} {
		for _, pair := range [][2][]int{{nil, nil}, {{}, {}}, {nil, {0}}, {{1, 2}, {1}}, {{1, 2}, {1, 2, 1}}, {{1, 2}, {1, 2, 1, 2}}, {make([]int, 299), make([]int, 300)}, {make([]int, 300), make([]int, 301)}} {
			wantNoMeeting(t, pair[0], pair[1], k)
			wantNoMeeting(t, pair[1], pair[0], k)
		}
		for _, h := range invalidHops(16) {
			for _, other := range [][]int{h, make([]int, len(h)), nil, {0}} {
				wantNoMeeting(t, h, other, k)
				wantNoMeeting(t, other, h, k)
			}
		}
	}
}

func TestWorstCollisions(t *testing.T) {
	random := rand.New(rand.NewPCG(7, 202))
	for round := range 300 {
		list := make([][]int, random.IntN(9))
		channels, count := 1+random.IntN(16), 1+random.IntN(20)
		if round%60 == 59 {
			count = 300
		}
		for i := range list {
			list[i] = randomHops(random, channels, count)
		}
		wantInt(t, short("WorstCollisions", list), impl.WorstCollisions(list), mostMeetings(list))
	}
	a, b, c := []int{0, 1, 2, 3}, []int{4, 0, 5, 1}, []int{6, 7, 8, 4}
	for _, one := range []struct {
		list [][]int
		want int
	}{
		{nil, 0}, {[][]int{}, 0}, {[][]int{a}, 0}, {[][]int{make([]int, 300)}, 0}, {[][]int{a, a}, 4}, {[][]int{a, {2, 3, 0, 1}}, 4}, {[][]int{a, b}, 1}, {[][]int{a, c}, 0}, {[][]int{a, c, b}, 1}, {[][]int{c, a, b, c}, 4},
		{[][]int{{9}, {9}}, 1}, {[][]int{{9}, {8}}, 0}, {slices.Repeat([][]int{a}, 8), 4}, {[][]int{{0, 0}, {1, 1}, {2, 2}, {3, 3}, {4, 4}, {5, 5}, {6, 6}, {7, 7}}, 0}, {[][]int{{0, 0}, {1, 1}, {2, 2}, {3, 3}, {4, 4}, {5, 5}, {6, 6}, {7, 0}}, 1},
		{slices.Repeat([][]int{make([]int, 300)}, 8), 300}, {[][]int{{0, 0, 1}, {1, 1, 0}}, 2},
	} {
		wantInt(t, short("WorstCollisions", one.list), impl.WorstCollisions(one.list), one.want)
	}
}

func TestNoWorstCollisions(t *testing.T) {
	a := []int{0, 1, 2, 3}
	for _, list := range [][][]int{slices.Repeat([][]int{a}, 9), slices.Repeat([][]int{a}, 10), slices.Repeat([][]int{nil}, 9), make([][]int, 1000), {nil}, {{}}, {nil, nil}, {a, nil}, {nil, a}, {a, a, {}}, {a, a[:3]}, {a[:3], a}, {a, a, {0, 1, 2, 3, 0}}, {a, a, a[:1], a}, append(slices.Repeat([][]int{a}, 7), a[:2])} {
		wantInt(t, short("WorstCollisions", list), impl.WorstCollisions(list), -1)
	}
	for _, h := range invalidHops(16) {
		like := make([]int, len(h))
		for _, list := range [][][]int{{h}, {h, h}, {h, like}, {like, h}, {like, like, h}, append(slices.Repeat([][]int{like}, 7), h)} {
			wantInt(t, short("WorstCollisions", list), impl.WorstCollisions(list), -1)
		}
	}
}

func TestLoadOf(t *testing.T) {
	for channels := 1; channels <= 16; channels++ {
		for _, h := range someHops(channels) {
			wantList(t, short("LoadOf", channels, h), impl.LoadOf(h, channels), loads(h, channels))
		}
		for _, h := range invalidHops(channels) {
			wantList(t, short("LoadOf", channels, h), impl.LoadOf(h, channels), nil)
		}
	}
	for _, channels := range noChannels {
		for _, h := range [][]int{nil, {0}, {channels - 1}} {
			wantList(t, short("LoadOf", channels, h), impl.LoadOf(h, channels), nil)
		}
	}
	for _, c := range []struct {
		h        []int
		channels int
		want     []int
	}{
		{nil, 1, []int{0}}, {nil, 4, []int{0, 0, 0, 0}}, {[]int{0, 2, 2}, 3, []int{1, 0, 2}}, {[]int{0, 2, 2}, 5, []int{1, 0, 2, 0, 0}}, {make([]int, 300), 1, []int{300}}, {[]int{15}, 16, append(make([]int, 15), 1)},
	} {
		wantList(t, short("LoadOf", c.channels, c.h), impl.LoadOf(c.h, c.channels), c.want)
	}
}

// TestUsersMeetOnce is promise 7: with a prime number of channels, two different users meet once in each period, whatever the shift is.
func TestUsersMeetOnce(t *testing.T) {
	for _, prime := range primes {
		for a := range prime {
			for b := range prime {
				for _, periods := range []int{1, 2, 300 / prime} {
					first, _ := impl.LinearHops(prime, a, periods*prime)
					second, _ := impl.LinearHops(prime, b, periods*prime)
					for _, k := range append(shiftsOf(prime), allShifts(prime)...) {
						want := periods
						if a == b {
							want = ownMeetings(prime, a, periods, k)
						}
						wantInt(t, callOf("HopCollisions", prime, a, b, periods, k), impl.HopCollisions(first, second, k), want)
					}
				}
			}
		}
	}
}

// allShifts returns all shifts of three periods, the middle one from 0 on.
func allShifts(period int) []int {
	return signal(3*period, func(i int) int { return i - period })
}

// ownMeetings returns how often a user meets itself: always, if it does not hop or is shifted by whole periods, and otherwise never.
func ownMeetings(prime, user, periods, k int) int {
	if user == 0 || k%prime == 0 {
		return prime * periods
	}
	return 0
}

// TestUsersMeetOnceInEachPeriod looks at each period of longer hops, wherever it begins, with any beginning of either user.
func TestUsersMeetOnceInEachPeriod(t *testing.T) {
	for _, prime := range primes {
		for a := range prime {
			for b := range a {
				for k := range prime {
					first, _ := impl.LinearHops(prime, a, 4*prime)
					second, _ := impl.LinearHops(prime, b, 4*prime)
					second, _ = impl.ShiftHops(second, k)
					for from := range 3 * prime {
						wantInt(t, callOf("HopCollisions", prime, a, b, k, from), impl.HopCollisions(first[from:from+prime], second[from:from+prime], 0), 1)
					}
				}
			}
		}
	}
}

// TestAllUsersTogether holds promise 7 for as many users as there can be, also on channels that are all moved by the same number.
func TestAllUsersTogether(t *testing.T) {
	random := rand.New(rand.NewPCG(7, 203))
	for _, prime := range primes {
		for range 40 {
			users := random.Perm(prime)[:min(prime, 8)]
			d := random.IntN(33) - 16
			list := make([][]int, len(users))
			for i, user := range users {
				h, _ := impl.LinearHops(prime, user, prime)
				h, _ = impl.ShiftHops(h, random.Int())
				list[i], _ = impl.MoveHops(h, prime, d)
			}
			wantInt(t, fmt.Sprint("WorstCollisions of ", prime, users, d), impl.WorstCollisions(list), 1)
		}
	}
}

// TestOtherNumbersOfChannels: with a number that is not prime, there are users that meet several times for one shift, and never for another one.
func TestOtherNumbersOfChannels(t *testing.T) {
	for channels := 2; channels <= 16; channels++ {
		most, least := 0, channels
		for a := range channels {
			for b := range a {
				first, _ := impl.LinearHops(channels, a, channels)
				second, _ := impl.LinearHops(channels, b, channels)
				for k := range channels {
					n := impl.HopCollisions(first, second, k)
					most, least = max(most, n), min(least, n)
				}
			}
		}
		prime := slices.Contains(primes, channels)
		if (most == 1) != prime || (least == 1) != prime {
			t.Errorf("users of %d channels meet between %d and %d times", channels, least, most)
		}
	}
}

func TestExampleOfHopping(t *testing.T) {
	a, ok := impl.LinearHops(5, 1, 5)
	wantSignal(t, "LinearHops of the user 1", a, ok, []int{0, 1, 2, 3, 4})
	b, ok := impl.LinearHops(5, 2, 5)
	wantSignal(t, "LinearHops of the user 2", b, ok, []int{0, 2, 4, 1, 3})
	for k := -10; k <= 10; k++ {
		wantInt(t, callOf("HopCollisions", k), impl.HopCollisions(a, b, k), 1)
	}
	wantInt(t, "WorstCollisions", impl.WorstCollisions([][]int{a, b}), 1)
}

func TestHopResultsAreNew(t *testing.T) {
	h := []int{0, 2, 4, 1, 3}
	r := impl.Register{Size: 3, Taps: 3, State: 1}
	wantNewResults(t, map[string]func() ([]int, bool){
		"HopSequence":           func() ([]int, bool) { return impl.HopSequence(r, 8, 5) },
		"HopSequence, empty":    func() ([]int, bool) { return impl.HopSequence(r, 8, 0) },
		"LinearHops":            func() ([]int, bool) { return impl.LinearHops(5, 2, 5) },
		"ShiftHops":             func() ([]int, bool) { return impl.ShiftHops(h, 2) },
		"ShiftHops, by nothing": func() ([]int, bool) { return impl.ShiftHops(h, 0) },
		"MoveHops":              func() ([]int, bool) { return impl.MoveHops(h, 5, 1) },
		"MoveHops, by nothing":  func() ([]int, bool) { return impl.MoveHops(h, 5, 0) },
		"MoveHops, empty":       func() ([]int, bool) { return impl.MoveHops(h[:0], 5, 0) },
		"LoadOf":                func() ([]int, bool) { return impl.LoadOf(h, 5), true },
		"RemapHops":             func() ([]int, bool) { return impl.RemapHops(h, 5, []int{1}) },
		"RemapHops, none bad":   func() ([]int, bool) { return impl.RemapHops(h, 5, nil) },
		"RemapHops, empty":      func() ([]int, bool) { return impl.RemapHops(h[:0], 5, nil) },
	}, h)
}

// TestHopArgumentsStay looks for changes of arguments and of the memory behind them.
func TestHopArgumentsStay(t *testing.T) {
	all, before := []int{4, 0, 3, 1, 4, 77, -88}, []int{4, 0, 3, 1, 4, 77, -88}
	more, same := []int{1, 3, 1, 9, 99}, []int{1, 3, 1, 9, 99}
	texts := []string{"0?1", "?01", "001", "x"}
	h, jammed := all[:5], more[:3]
	list := [][]int{h, h[:5:5], {0, 1, 2, 3, 4}, nil}
	impl.HopsValid(h, 5)
	impl.ShiftHops(h, 2)
	impl.MoveHops(h, 5, 3)
	impl.HopCollisions(h, all[1:6], 1)
	impl.HopCollisions(h, h, 1)
	impl.WorstCollisions(list[:3])
	impl.LoadOf(h, 5)
	impl.JammedHops(h, jammed)
	impl.RemapHops(h, 5, jammed)
	impl.SendHops("0110101", h, jammed)
	impl.CombineCopies(texts[:3])
	impl.CopiesNeeded("0110101", h, jammed, 16)
	impl.SyncHops(4, 3, 5, h)
	if !slices.Equal(all, before) || !slices.Equal(more, same) || !slices.Equal(texts, []string{"0?1", "?01", "001", "x"}) {
		t.Errorf("arguments have changed to %v, %v and %q", all, more, texts)
	}
	if !slices.Equal(list[0], h) || !slices.Equal(list[2], []int{0, 1, 2, 3, 4}) || list[3] != nil {
		t.Errorf("the list has changed to %v", list)
	}
}
