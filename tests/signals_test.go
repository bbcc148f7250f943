package tests

import (
	"math"
	"slices"
	"strings"
	"testing"

	"loop.example/spreadspectrum/impl"
)

// wantSignal reports a result that is not the wanted numbers and true.
func wantSignal(t *testing.T, call string, got []int, ok bool, want []int) {
	t.Helper()
	if !slices.Equal(got, want) || !ok {
		t.Errorf("%s =%s, %v, want%s, true", call, short("", got), ok, short("", want))
	}
}

// wantNoSignal reports a result that is not an empty slice and false.
func wantNoSignal(t *testing.T, call string, got []int, ok bool) {
	t.Helper()
	if len(got) != 0 || ok {
		t.Errorf("%s =%s, %v, want an empty slice, false", call, short("", got), ok)
	}
}

func TestSignalValid(t *testing.T) {
	for _, s := range someSignals() {
		if !impl.SignalValid(s) {
			t.Errorf("%s = false", short("SignalValid", s))
		}
	}
	for _, s := range invalidSignals() {
		if impl.SignalValid(s) {
			t.Errorf("%s = true", short("SignalValid", s))
		}
	}
	for _, length := range []int{0, 1, 2, 2999, 3000, 3001, 3002, 6000, 10000} {
		if got := impl.SignalValid(make([]int, length)); got != (length <= 3000) {
			t.Errorf("SignalValid of %d samples = %v", length, got)
		}
	}
	for _, n := range []int{0, 1, -1, 999999, 1000000, 1000001, -999999, -1000000, -1000001, math.MaxInt, math.MinInt} {
		for at := range 3 {
			s := []int{4, -5, 6}
			s[at] = n
			if got := impl.SignalValid(s); got != (n >= -1000000 && n <= 1000000) {
				t.Errorf("SignalValid(%v) = %v", s, got)
			}
		}
	}
}

func TestChipsOf(t *testing.T) {
	for bits := range someSequences() {
		got, ok := impl.ChipsOf(bits)
		wantSignal(t, short("ChipsOf", bits), got, ok, signal(len(bits), func(i int) int { return chipAt(bits, i) }))
	}
	for bits, want := range map[string][]int{"": {}, "0": {1}, "1": {-1}, "01": {1, -1}, "1100": {-1, -1, 1, 1}, strings.Repeat("1", 600): slices.Repeat([]int{-1}, 600), strings.Repeat("01", 300): slices.Repeat([]int{1, -1}, 300)} {
		got, ok := impl.ChipsOf(bits)
		wantSignal(t, short("ChipsOf", bits), got, ok, want)
	}
	for _, bits := range invalidBits {
		got, ok := impl.ChipsOf(bits)
		wantNoSignal(t, short("ChipsOf", bits), got, ok)
	}
}

func TestSignsOf(t *testing.T) {
	for _, s := range someSignals() {
		got, ok := impl.SignsOf(s)
		if len(s) <= 600 {
			wantBits(t, short("SignsOf", s), got, ok, signs(s))
		} else {
			wantNoBits(t, short("SignsOf", s), got, ok)
		}
	}
	cases := []struct {
		s    []int
		want string
	}{
		{nil, ""}, {[]int{}, ""}, {[]int{0}, "0"}, {[]int{1}, "0"}, {[]int{-1}, "1"}, {[]int{3, 0, -1}, "001"}, {[]int{-1000000, 1000000, 0, -2}, "1001"},
		{make([]int, 600), strings.Repeat("0", 600)}, {slices.Repeat([]int{-1, 0}, 300), strings.Repeat("10", 300)},
	}
	for _, c := range cases {
		got, ok := impl.SignsOf(c.s)
		wantBits(t, short("SignsOf", c.s), got, ok, c.want)
	}
	for _, s := range append(invalidSignals(), make([]int, 601), slices.Repeat([]int{-1}, 601), make([]int, 3000)) {
		got, ok := impl.SignsOf(s)
		wantNoBits(t, short("SignsOf", s), got, ok)
	}
}

func TestSignsOfChips(t *testing.T) {
	for bits := range someSequences() {
		chips, _ := impl.ChipsOf(bits)
		got, ok := impl.SignsOf(chips)
		wantBits(t, short("SignsOf ChipsOf", bits), got, ok, bits)
	}
}

func TestSpreadBits(t *testing.T) {
	for _, code := range someCodes() {
		for _, data := range []string{"", "0", "1", "01", "10", "110", "0010", mixed(11, 2), mixed(100, 1), mixed(255, 5), strings.Repeat("0", 600), strings.Repeat("110", 200)} {
			got, ok := impl.SpreadBits(data, code)
			if len(data)*len(code) <= 3000 {
				wantSignal(t, short("SpreadBits", data, code), got, ok, spread(data, code))
			} else {
				wantNoSignal(t, short("SpreadBits", data, code), got, ok)
			}
		}
	}
	got, ok := impl.SpreadBits("01", "0101")
	wantSignal(t, "SpreadBits(01, 0101)", got, ok, []int{1, -1, 1, -1, -1, 1, -1, 1})
	got, ok = impl.SpreadBits("", "0101")
	wantSignal(t, "SpreadBits of no data", got, ok, nil)
}

func TestSpreadBitsOfManySamples(t *testing.T) {
	for _, c := range [][2]int{{600, 5}, {300, 10}, {100, 30}, {60, 50}, {20, 150}, {15, 200}, {12, 250}, {11, 255}, {600, 1}} {
		data, code := strings.Repeat("1", c[0]), strings.Repeat("0", c[1])
		got, ok := impl.SpreadBits(data, code)
		wantSignal(t, callOf("SpreadBits", c[0], c[1]), got, ok, slices.Repeat([]int{-1}, c[0]*c[1]))
	}
	for _, c := range [][2]int{{38, 79}, {79, 38}, {231, 13}, {13, 231}, {501, 6}, {12, 251}, {600, 6}, {600, 255}, {255, 255}, {601, 1}, {3000, 1}, {601, 0}, {0, 0}, {0, 256}, {1, 256}, {10, 300}} {
		data, code := strings.Repeat("1", c[0]), strings.Repeat("0", c[1])
		got, ok := impl.SpreadBits(data, code)
		wantNoSignal(t, callOf("SpreadBits", c[0], c[1]), got, ok)
	}
}

func TestNoSpreadBits(t *testing.T) {
	for _, data := range invalidBits {
		got, ok := impl.SpreadBits(data, "1")
		wantNoSignal(t, short("SpreadBits", data, "1"), got, ok)
	}
	for _, code := range invalidSequences {
		for _, data := range []string{"", "0", "01"} {
			got, ok := impl.SpreadBits(data, code)
			wantNoSignal(t, short("SpreadBits", data, code), got, ok)
		}
	}
}

func TestDespreadSignal(t *testing.T) {
	for _, s := range someSignals() {
		for _, code := range someCodes() {
			for _, count := range []int{0, 1, 2, 3, len(s) / len(code), len(s)/len(code) + 1, len(s)/len(code) + 2, 600} {
				if count > 600 {
					continue
				}
				got, ok := impl.DespreadSignal(s, code, count)
				wantSignal(t, short("DespreadSignal", count, code, s), got, ok, despread(s, code, 0, count))
			}
		}
	}
	for _, c := range []struct {
		s     []int
		code  string
		count int
		want  []int
	}{
		{nil, "0101", 2, []int{0, 0}}, {nil, "1", 0, nil}, {[]int{1, 2, 3}, "0", 0, nil}, {[]int{5}, "0101", 1, []int{5}}, {[]int{5, 7}, "0101", 1, []int{-2}}, {[]int{5, 7, 1}, "01", 3, []int{-2, 1, 0}},
		{[]int{1, -1, 1, -1, -1, 1, -1, 1}, "0101", 3, []int{4, -4, 0}}, {[]int{1, -1, 1, -1, -1, 1, -1, 1}, "0011", 2, []int{0, 0}}, {[]int{1, 2, 3, 4, 5}, "110", 2, []int{0, -9}},
		// The sums may be greater than samples.
		{slices.Repeat([]int{1000000}, 255), strings.Repeat("0", 255), 2, []int{255000000, 0}}, {slices.Repeat([]int{-1000000}, 3000), strings.Repeat("0", 255), 12, append(slices.Repeat([]int{-255000000}, 11), -195000000)},
	} {
		got, ok := impl.DespreadSignal(c.s, c.code, c.count)
		wantSignal(t, short("DespreadSignal", c.count, c.code, c.s), got, ok, c.want)
	}
}

func TestNoDespreadSignal(t *testing.T) {
	for _, s := range invalidSignals() {
		for _, count := range []int{0, 1, 600} {
			got, ok := impl.DespreadSignal(s, "01", count)
			wantNoSignal(t, short("DespreadSignal", count, s), got, ok)
		}
	}
	for _, code := range invalidSequences {
		for _, count := range []int{0, 1, 600} {
			got, ok := impl.DespreadSignal([]int{1, 2, 3}, code, count)
			wantNoSignal(t, short("DespreadSignal", count, code), got, ok)
		}
	}
	for _, count := range noCounts {
		for _, s := range [][]int{nil, {1, 2}, make([]int, 3000)} {
			got, ok := impl.DespreadSignal(s, "1", count)
			wantNoSignal(t, short("DespreadSignal", count, s), got, ok)
		}
	}
}

func TestDespreadSignalUndoesSpreadBits(t *testing.T) {
	for _, code := range someCodes() {
		data := mixed(min(255, 3000/len(code)), 3)
		s, _ := impl.SpreadBits(data, code)
		sums, ok := impl.DespreadSignal(s, code, len(data))
		wantSignal(t, short("DespreadSignal SpreadBits", data, code), sums, ok, signal(len(data), func(i int) int { return len(code) * chipAt(data, i) }))
		got, ok := impl.ReceiveUser(s, code, 0, len(data))
		wantBits(t, short("ReceiveUser SpreadBits", data, code), got, ok, data)
	}
}

func TestAddSignals(t *testing.T) {
	for _, a := range someSignals() {
		for _, b := range someSignals() {
			want := signal(max(len(a), len(b)), func(i int) int { return sampleAt(a, i) + sampleAt(b, i) })
			got, ok := impl.AddSignals(a, b)
			if valid(want) {
				wantSignal(t, short("AddSignals", len(a), a, b), got, ok, want)
			} else {
				wantNoSignal(t, short("AddSignals", len(a), a, b), got, ok)
			}
		}
		for _, b := range invalidSignals() {
			got, ok := impl.AddSignals(a, b)
			wantNoSignal(t, short("AddSignals", a, b), got, ok)
			got, ok = impl.AddSignals(b, a)
			wantNoSignal(t, short("AddSignals", b, a), got, ok)
		}
	}
	for _, c := range []struct{ a, b, want []int }{
		{nil, nil, nil}, {[]int{1, 2}, []int{3}, []int{4, 2}}, {[]int{3}, []int{1, 2}, []int{4, 2}}, {[]int{5}, nil, []int{5}}, {nil, []int{-5, 0}, []int{-5, 0}}, {[]int{1}, []int{-1}, []int{0}},
		{[]int{999999}, []int{1}, []int{1000000}}, {[]int{-999999}, []int{-1}, []int{-1000000}}, {[]int{1000000}, []int{-1000000}, []int{0}}, {[]int{1000000}, []int{0, 1000000}, []int{1000000, 1000000}},
		{make([]int, 3000), []int{2}, append([]int{2}, make([]int, 2999)...)},
	} {
		got, ok := impl.AddSignals(c.a, c.b)
		wantSignal(t, short("AddSignals", c.a, c.b), got, ok, c.want)
	}
	for _, pair := range [][2][]int{{{1000000}, {1}}, {{-1}, {-1000000}}, {{0, 0, 1000000}, {0, 0, 1000000, 0}}, {{500001, 1}, {500000}}, {{1000001}, {-1}}, {{-1000001}, {1}}, {{math.MaxInt}, {math.MaxInt}}, {{math.MinInt}, {math.MinInt}}, {{math.MaxInt}, {math.MinInt}}} {
		got, ok := impl.AddSignals(pair[0], pair[1])
		wantNoSignal(t, short("AddSignals", pair), got, ok)
	}
}

func TestScaleSignal(t *testing.T) {
	for _, s := range someSignals() {
		for _, gain := range []int{0, 1, -1, 2, -3, 10, 333333, 333334, 999999, -999999, 1000000, -1000000} {
			want := signal(len(s), func(i int) int { return gain * s[i] })
			got, ok := impl.ScaleSignal(s, gain)
			if valid(want) {
				wantSignal(t, short("ScaleSignal", gain, s), got, ok, want)
			} else {
				wantNoSignal(t, short("ScaleSignal", gain, s), got, ok)
			}
		}
		for _, gain := range noGains {
			got, ok := impl.ScaleSignal(s, gain)
			wantNoSignal(t, short("ScaleSignal", gain, s), got, ok)
		}
	}
	for _, s := range invalidSignals() {
		for _, gain := range []int{0, 1, -1, 1000000} {
			got, ok := impl.ScaleSignal(s, gain)
			wantNoSignal(t, short("ScaleSignal", gain, s), got, ok)
		}
	}
	for _, c := range []struct {
		s    []int
		gain int
		want []int
	}{
		{[]int{1, -2}, -3, []int{-3, 6}}, {[]int{1, -2, 1000000}, 0, []int{0, 0, 0}}, {nil, 1000000, nil}, {[]int{1, 0, -1}, 1000000, []int{1000000, 0, -1000000}}, {[]int{1, 0, -1}, -1000000, []int{-1000000, 0, 1000000}},
		{[]int{1000000}, -1, []int{-1000000}}, {[]int{1000}, 1000, []int{1000000}}, {[]int{-500000}, 2, []int{-1000000}},
	} {
		got, ok := impl.ScaleSignal(c.s, c.gain)
		wantSignal(t, short("ScaleSignal", c.gain, c.s), got, ok, c.want)
	}
	for _, c := range []struct {
		s    []int
		gain int
	}{{[]int{500001}, 2}, {[]int{500001}, -2}, {[]int{0, 0, -500001}, 2}, {[]int{2}, 1000000}, {[]int{1000000, 0}, 1000000}, {[]int{1001}, 1000}, {nil, 1000001}, {nil, -1000001}, {[]int{0}, 1000001}} {
		got, ok := impl.ScaleSignal(c.s, c.gain)
		wantNoSignal(t, short("ScaleSignal", c.gain, c.s), got, ok)
	}
}

func TestDelaySignal(t *testing.T) {
	for _, s := range someSignals() {
		for _, k := range []int{0, 1, 2, 7, 600, 1000, 1001, 2999 - len(s), 3000 - len(s), 3001 - len(s), 2999, 3000} {
			got, ok := impl.DelaySignal(s, k)
			if k >= 0 && k+len(s) <= 3000 {
				wantSignal(t, short("DelaySignal", k, s), got, ok, slices.Concat(make([]int, k), s))
			} else {
				wantNoSignal(t, short("DelaySignal", k, s), got, ok)
			}
		}
		for _, k := range noDelays {
			got, ok := impl.DelaySignal(s, k)
			wantNoSignal(t, short("DelaySignal", k, s), got, ok)
		}
	}
	for _, s := range invalidSignals() {
		for _, k := range []int{0, 1, 3000} {
			got, ok := impl.DelaySignal(s, k)
			wantNoSignal(t, short("DelaySignal", k, s), got, ok)
		}
	}
	got, ok := impl.DelaySignal([]int{1}, 2)
	wantSignal(t, "DelaySignal", got, ok, []int{0, 0, 1})
	got, ok = impl.DelaySignal(nil, 3000)
	wantSignal(t, "DelaySignal of no samples", got, ok, make([]int, 3000))
	got, ok = impl.DelaySignal([]int{1}, 3000)
	wantNoSignal(t, "DelaySignal of 3001 samples", got, ok)
}

func TestCutSignal(t *testing.T) {
	for _, s := range someSignals() {
		n := len(s)
		for _, c := range [][2]int{{0, 0}, {0, n}, {n, 0}, {0, n / 2}, {n / 2, n - n/2}, {n / 3, n / 3}, {n - min(n, 1), min(n, 1)}} {
			got, ok := impl.CutSignal(s, c[0], c[1])
			wantSignal(t, short("CutSignal", c, s), got, ok, s[c[0]:c[0]+c[1]])
		}
		for _, c := range [][2]int{
			{0, n + 1}, {n, 1}, {n + 1, 0}, {n + 1, -1}, {n / 2, n - n/2 + 1}, {-1, 0}, {-1, 1}, {-1, n + 1}, {0, -1}, {n, -1}, {n, -n - 1},
			{0, math.MaxInt}, {n, math.MaxInt}, {1, math.MaxInt}, {math.MaxInt, 0}, {math.MaxInt, 1}, {math.MaxInt, math.MaxInt}, {math.MaxInt, -math.MaxInt}, {math.MaxInt, math.MinInt},
			{math.MinInt, 0}, {math.MinInt, math.MaxInt}, {math.MinInt, math.MinInt}, {0, math.MinInt}, {n, math.MinInt}, {-1, math.MaxInt}, {1 << 32, 1}, {0, 1 << 32},
		} {
			got, ok := impl.CutSignal(s, c[0], c[1])
			wantNoSignal(t, short("CutSignal", c, s), got, ok)
		}
	}
	s := []int{1, -2, 3}
	for from := -2; from <= 5; from++ {
		for n := -3; n <= 6; n++ {
			got, ok := impl.CutSignal(s, from, n)
			if from >= 0 && n >= 0 && from+n <= 3 {
				wantSignal(t, callOf("CutSignal", from, n), got, ok, s[from:from+n])
			} else {
				wantNoSignal(t, callOf("CutSignal", from, n), got, ok)
			}
		}
	}
	// What lies behind the length of a signal does not belong to it.
	got, ok := impl.CutSignal(s[:1], 0, 2)
	wantNoSignal(t, "CutSignal past the length", got, ok)
	for _, s := range invalidSignals() {
		for _, c := range [][2]int{{0, 0}, {0, 1}, {1, 0}, {len(s), 0}} {
			got, ok := impl.CutSignal(s, c[0], c[1])
			wantNoSignal(t, short("CutSignal", c, s), got, ok)
		}
	}
}

func TestClipSignal(t *testing.T) {
	for _, s := range someSignals() {
		for _, limit := range []int{0, 1, 2, 500, 999999, 1000000} {
			want := signal(len(s), func(i int) int {
				switch {
				case s[i] > limit:
					return limit
				case s[i] < -limit:
					return -limit
				}
				return s[i]
			})
			got, ok := impl.ClipSignal(s, limit)
			wantSignal(t, short("ClipSignal", limit, s), got, ok, want)
		}
		for _, limit := range append([]int{-1, -2, -1000000}, noGains...) {
			got, ok := impl.ClipSignal(s, limit)
			wantNoSignal(t, short("ClipSignal", limit, s), got, ok)
		}
	}
	for _, s := range invalidSignals() {
		for _, limit := range []int{0, 1, 1000000} {
			got, ok := impl.ClipSignal(s, limit)
			wantNoSignal(t, short("ClipSignal", limit, s), got, ok)
		}
	}
	for _, c := range []struct {
		s     []int
		limit int
		want  []int
	}{
		{[]int{5, -5, 1}, 2, []int{2, -2, 1}}, {[]int{2, -2, 3, -3, 0}, 2, []int{2, -2, 2, -2, 0}}, {[]int{7, -7, 0}, 0, []int{0, 0, 0}}, {nil, 0, nil}, {[]int{1000000, -1000000}, 1000000, []int{1000000, -1000000}}, {[]int{1000000, -1000000}, 999999, []int{999999, -999999}},
	} {
		got, ok := impl.ClipSignal(c.s, c.limit)
		wantSignal(t, short("ClipSignal", c.limit, c.s), got, ok, c.want)
	}
}

func TestEnergyOf(t *testing.T) {
	for _, s := range someSignals() {
		want := 0
		for _, sample := range s {
			want += sample * sample
		}
		if got := impl.EnergyOf(s); got != want {
			t.Errorf("%s = %d, want %d", short("EnergyOf", s), got, want)
		}
	}
	for _, c := range []struct {
		s    []int
		want int
	}{{nil, 0}, {[]int{}, 0}, {[]int{0}, 0}, {[]int{3, -4}, 25}, {[]int{-1}, 1}, {[]int{1000000}, 1000000000000}, {slices.Repeat([]int{-1000000}, 3000), 3000000000000000}} {
		if got := impl.EnergyOf(c.s); got != c.want {
			t.Errorf("%s = %d, want %d", short("EnergyOf", c.s), got, c.want)
		}
	}
	for _, s := range invalidSignals() {
		if got := impl.EnergyOf(s); got != -1 {
			t.Errorf("%s = %d, want -1", short("EnergyOf", s), got)
		}
	}
}

// wantNewResults changes the result of each call, also in what is left of its memory, and looks at the argument of the calls and at other results.
func wantNewResults(t *testing.T, calls map[string]func() ([]int, bool), argument []int) {
	t.Helper()
	before := slices.Clone(argument)
	for name, call := range calls {
		first, _ := call()
		want := slices.Clone(first)
		second, _ := call()
		for i := range first[:cap(first)] {
			first[:cap(first)][i] = 77
		}
		third, ok := call()
		wantSignal(t, name+" again", second, true, want)
		wantSignal(t, name+" anew", third, ok, want)
		wantSignal(t, "the argument of "+name, argument, true, before)
	}
}

func TestSignalResultsAreNew(t *testing.T) {
	s, users := []int{1, -2, 3, 0}, []impl.User{{Code: "01", Data: "01", Gain: 1}}
	calls := map[string]func() ([]int, bool){
		"ChipsOf":            func() ([]int, bool) { return impl.ChipsOf("0110") },
		"SpreadBits":         func() ([]int, bool) { return impl.SpreadBits("01", "0110") },
		"DespreadSignal":     func() ([]int, bool) { return impl.DespreadSignal(s, "0", 4) },
		"AddSignals":         func() ([]int, bool) { return impl.AddSignals(s, nil) },
		"AddSignals, second": func() ([]int, bool) { return impl.AddSignals(nil, s) },
		"AddSignals, both":   func() ([]int, bool) { return impl.AddSignals(s, s) },
		"ScaleSignal":        func() ([]int, bool) { return impl.ScaleSignal(s, 1) },
		"DelaySignal":        func() ([]int, bool) { return impl.DelaySignal(s, 0) },
		"CutSignal":          func() ([]int, bool) { return impl.CutSignal(s, 0, len(s)) },
		"CutSignal, inside":  func() ([]int, bool) { return impl.CutSignal(s, 1, 2) },
		"CutSignal, empty":   func() ([]int, bool) { return impl.CutSignal(s, 1, 0) },
		"ClipSignal":         func() ([]int, bool) { return impl.ClipSignal(s, 1000000) },
		"SendAll":            func() ([]int, bool) { return impl.SendAll(users) },
		"SendAll, none":      func() ([]int, bool) { return impl.SendAll(nil) },
	}
	wantNewResults(t, calls, s)
}

// TestSpreadingArgumentsStay looks for changes of arguments and of the memory behind them.
func TestSpreadingArgumentsStay(t *testing.T) {
	all, before := []int{4, -5, 6, 77, -88, 99}, []int{4, -5, 6, 77, -88, 99}
	s := all[:3]
	delays := []int{3, 0, 2, 0, 5, 1}
	users := []impl.User{{Code: "01", Data: "01", Gain: 2}, {Code: "11", Data: "1", Gain: 3}, {Code: "10", Data: "111", Gain: 4}}
	same := slices.Clone(users)
	impl.SignalValid(s)
	impl.SignsOf(s)
	impl.DespreadSignal(s, "01", 3)
	impl.AddSignals(s, all)
	impl.AddSignals(all, s)
	impl.ScaleSignal(s, -2)
	impl.DelaySignal(s, 1)
	impl.CutSignal(s, 1, 1)
	impl.ClipSignal(s, 1)
	impl.EnergyOf(s)
	impl.ReceiveUser(s, "01", 0, 3)
	impl.MarginOf(s, "01", 1, "110")
	impl.RakeReceive(s, "01", delays[:4], 3)
	impl.SendAll(users[:2])
	impl.InterferenceBound(users[:2], 1)
	if !slices.Equal(all, before) || !slices.Equal(delays, []int{3, 0, 2, 0, 5, 1}) || !slices.Equal(users, same) {
		t.Errorf("arguments have changed to %v, %v and %v", all, delays, users)
	}
}
