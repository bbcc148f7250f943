package tests

import (
	"fmt"
	"math"
	"slices"
	"strings"
	"testing"

	"loop.example/spreadspectrum/impl"
)

// noSizes are numbers of cells that no register has.
var noSizes = []int{1, 0, -1, -2, -6, 9, 10, 16, 31, 32, 62, 63, 64, 65, math.MaxInt, math.MinInt, math.MinInt + 3}

// noOrders are numbers that are neither orders nor numbers of bits of paths.
var noOrders = []int{-1, -2, -64, 7, 8, 31, 62, 63, 64, 70, math.MaxInt, math.MinInt}

// someTaps returns all taps of a size, and numbers around and far past them.
func someTaps(size int) []int {
	list := []int{-1, -3, math.MaxInt, math.MinInt, 1<<32 + 3}
	for taps := range 1<<size + 4 {
		list = append(list, taps)
	}
	return list
}

// invalidPaths have too many bits, or bytes that are no bits.
var invalidPaths = []string{
	"0000000", "1111111", "1010101", "00000000", strings.Repeat("0", 64), strings.Repeat("1", 600), strings.Repeat("0", 601),
	"2", "/", "-", " ", "a", "\x00", "\x01", "\xff", "\u0661", "0 ", " 0", "1\n", "02", "20", "012", "00000x", "x00000", "11-111", "0000002",
}

// invalidUsed are lists that are no used paths.
func invalidUsed() [][]string {
	list := [][]string{
		slices.Repeat([]string{"1"}, 71), slices.Repeat([]string{""}, 71), slices.Repeat([]string{"000000"}, 71), append(slices.Repeat([]string{"1"}, 70), "2"),
		slices.Concat(pathsOf(6), pathsOf(3)[1:]), allPaths(), slices.Repeat([]string{"0"}, 1000),
	}
	for _, path := range invalidPaths {
		list = append(list, []string{path}, []string{path, "11"}, []string{"11", path}, []string{"", path}, []string{"0", path, "0"}, append(slices.Repeat([]string{"1"}, 69), path))
	}
	return list
}

func TestMaximalSequence(t *testing.T) {
	for size := 2; size <= 8; size++ {
		for _, taps := range someTaps(size) {
			got, ok := impl.MaximalSequence(size, taps)
			call := callOf("MaximalSequence", size, taps)
			if maximal(size, taps) {
				wantBits(t, call, got, ok, period(size, taps))
			} else {
				wantNoBits(t, call, got, ok)
			}
		}
	}
	for _, size := range noSizes {
		for _, taps := range []int{-1, 0, 1, 2, 3, 5, 29, math.MaxInt, math.MinInt} {
			got, ok := impl.MaximalSequence(size, taps)
			wantNoBits(t, callOf("MaximalSequence", size, taps), got, ok)
		}
	}
	for _, c := range []struct {
		size, taps int
		want       string
	}{{2, 3, "101"}, {3, 3, "1001011"}, {3, 5, "1001110"}, {4, 3, "100010011010111"}} {
		got, ok := impl.MaximalSequence(c.size, c.taps)
		wantBits(t, callOf("MaximalSequence", c.size, c.taps), got, ok, c.want)
	}
	if s, ok := impl.MaximalSequence(8, 29); !ok || len(s) != 255 {
		t.Errorf("MaximalSequence(8, 29) has %d bits", len(s))
	}
}

func TestGoldBound(t *testing.T) {
	for size, want := range goldBounds {
		if got := impl.GoldBound(size); got != want {
			t.Errorf("GoldBound(%d) = %d, want %d", size, got, want)
		}
	}
	for _, size := range noSizes {
		if got := impl.GoldBound(size); got != -1 {
			t.Errorf("GoldBound(%d) = %d, want -1", size, got)
		}
	}
}

func TestIsPreferred(t *testing.T) {
	for size := 2; size <= 8; size++ {
		taps := maximalTaps(size)
		for _, a := range taps {
			for _, b := range taps {
				want := size <= 6 && a != b && preferred(size, a, b)
				if got := impl.IsPreferred(size, a, b); got != want {
					t.Errorf("IsPreferred(%d, %d, %d) = %v", size, a, b, got)
				}
			}
			for _, other := range someTaps(size) {
				if !slices.Contains(taps, other) && (impl.IsPreferred(size, a, other) || impl.IsPreferred(size, other, a) || impl.IsPreferred(size, other, other)) {
					t.Errorf("IsPreferred(%d) of %d and %d, which is not maximal", size, a, other)
				}
			}
		}
	}
	for _, size := range noSizes {
		for _, pair := range [][2]int{{3, 5}, {5, 3}, {1, 2}, {0, 0}, {-1, 1}, {math.MaxInt, math.MinInt}} {
			if impl.IsPreferred(size, pair[0], pair[1]) {
				t.Errorf("IsPreferred(%d, %d, %d) = true", size, pair[0], pair[1])
			}
		}
	}
	if !impl.IsPreferred(3, 3, 5) || !impl.IsPreferred(3, 5, 3) || impl.IsPreferred(3, 3, 3) || impl.IsPreferred(4, 3, 9) {
		t.Error("IsPreferred of small sizes")
	}
}

func TestPreferredPairs(t *testing.T) {
	counts := map[int]int{2: 0, 3: 1, 4: 0, 5: 12, 6: 6, 7: 0, 8: 0}
	for size := 2; size <= 8; size++ {
		var want []impl.Pair
		for a := range 1 << min(size, 6) {
			for b := a + 1; size <= 6 && b < 1<<size; b++ {
				if maximal(size, a) && maximal(size, b) && preferred(size, a, b) {
					want = append(want, impl.Pair{A: a, B: b})
				}
			}
		}
		if got := impl.PreferredPairs(size); !slices.Equal(got, want) || len(got) != counts[size] {
			t.Errorf("PreferredPairs(%d) = %v, want %d: %v", size, got, counts[size], want)
		}
	}
	for _, size := range noSizes {
		if got := impl.PreferredPairs(size); len(got) != 0 {
			t.Errorf("PreferredPairs(%d) = %v", size, got)
		}
	}
}

func TestGoldCodeAndFamily(t *testing.T) {
	for size := 2; size <= 6; size++ {
		taps := maximalTaps(size)
		for _, a := range taps {
			for _, b := range taps {
				want := family(size, a, b)
				for k := -2; k <= 1<<size-2; k++ {
					got, ok := impl.GoldCode(size, a, b, k)
					wantBits(t, callOf("GoldCode", size, a, b, k), got, ok, want[k+2])
				}
				for _, k := range []int{-3, -4, -100, 1<<size - 1, 1 << size, 1000, math.MaxInt, math.MinInt} {
					got, ok := impl.GoldCode(size, a, b, k)
					wantNoBits(t, callOf("GoldCode", size, a, b, k), got, ok)
				}
				if got := impl.GoldFamily(size, a, b); !slices.Equal(got, want) || len(got) != 1<<size+1 {
					t.Errorf("GoldFamily(%d, %d, %d) = %q, want %q", size, a, b, got, want)
				}
			}
		}
	}
}

func TestGoldCodeOfEqualTaps(t *testing.T) {
	for k, want := range map[int]string{-2: "1001011", -1: "1001011", 0: "0000000", 1: "1011100", 6: "0101110"} {
		got, ok := impl.GoldCode(3, 3, 3, k)
		wantBits(t, callOf("GoldCode", 3, 3, 3, k), got, ok, want)
	}
	// In the other order the first two codes change places, and the codes with sums are turned.
	for k, want := range map[int]string{-2: "1001110", -1: "1001011", 0: "0000101", 1: "1011001"} {
		got, ok := impl.GoldCode(3, 5, 3, k)
		wantBits(t, callOf("GoldCode", 3, 5, 3, k), got, ok, want)
	}
}

// wantNoGold reports a Gold code or a family of invalid arguments.
func wantNoGold(t *testing.T, size, a, b int) {
	t.Helper()
	for _, k := range []int{-3, -2, -1, 0, 1, 1<<6 - 2, 1<<7 - 2, 1<<8 - 2, math.MaxInt, math.MinInt} {
		got, ok := impl.GoldCode(size, a, b, k)
		wantNoBits(t, callOf("GoldCode", size, a, b, k), got, ok)
	}
	if got := impl.GoldFamily(size, a, b); len(got) != 0 {
		t.Errorf("GoldFamily(%d, %d, %d) = %q", size, a, b, got)
	}
}

func TestNoGoldCode(t *testing.T) {
	for size := 2; size <= 6; size++ {
		a := maximalTaps(size)[0]
		for _, other := range someTaps(size) {
			if !maximal(size, other) {
				wantNoGold(t, size, a, other)
				wantNoGold(t, size, other, a)
				wantNoGold(t, size, other, other)
			}
		}
	}
	for size := 7; size <= 8; size++ {
		for _, a := range maximalTaps(size) {
			wantNoGold(t, size, a, a)
			wantNoGold(t, size, a, maximalTaps(size)[0])
		}
	}
	for _, size := range noSizes {
		for _, a := range []int{-1, 0, 1, 3, 5, math.MaxInt, math.MinInt} {
			wantNoGold(t, size, a, a)
			wantNoGold(t, size, a, 3)
		}
	}
}

// manyOf returns different sequences of one length.
func manyOf(count, length int) []string {
	list := make([]string, count)
	for i := range list {
		list[i] = shifted(mixed(length, 2+i/length), i)
	}
	return list
}

func TestWorstCross(t *testing.T) {
	cases := []struct {
		list []string
		want int
	}{
		{[]string{"0"}, 0}, {[]string{"1"}, 0}, {[]string{"1", "1"}, 1}, {[]string{"1", "0"}, 1},
		{[]string{"10"}, 2}, {[]string{"11"}, 2}, {[]string{"110"}, 1}, {[]string{"111"}, 3}, {[]string{"1000"}, 0}, {[]string{"0001"}, 0}, {[]string{"1000", "1000"}, 4},
		{[]string{"1001011"}, 1}, {[]string{"1001011", "1001011"}, 7}, {[]string{"1001011", "0010111"}, 7}, {[]string{"1001011", "0110100"}, 7}, {[]string{"1001011", "1001110"}, 5},
		// A correlation counts also if it is negative, belongs to the last shift, or to the last pair.
		{[]string{"1000", "0111"}, 4}, {[]string{"1000", "1110"}, 4}, {[]string{"1000", "0001"}, 4}, {[]string{"1111", "1100"}, 4}, {[]string{"1000", "1011", "1101"}, 4},
		{[]string{strings.Repeat("1", 255)}, 255}, {[]string{strings.Repeat("0", 254) + "1"}, 251}, {[]string{period(8, 29)}, 1},
		{slices.Repeat([]string{"1"}, 70), 1}, {slices.Repeat([]string{"1001011"}, 70), 7}, {manyOf(70, 255), 255}, {manyOf(70, 31), 31},
	}
	for _, c := range cases {
		if got := impl.WorstCross(c.list); got != c.want {
			t.Errorf("WorstCross(%.90q) = %d, want %d", c.list, got, c.want)
		}
	}
}

func TestWorstCrossOfModel(t *testing.T) {
	var lists [][]string
	for length := 1; length <= 7; length++ {
		all := slices.Collect(sequencesOf(length))
		for i, s := range all {
			lists = append(lists, []string{s}, []string{s, all[len(all)-1-i]}, []string{s, all[i*5%len(all)], all[i*3%len(all)]}, all[max(0, i-3):i+1])
		}
	}
	for _, length := range []int{5, 11, 17, 31} {
		for count := 1; count <= 7; count += 2 {
			lists = append(lists, manyOf(count, length))
		}
	}
	lists = append(lists, family(3, 3, 5), family(3, 5, 3), family(4, 3, 9), family(4, 3, 3), []string{mixed(255, 1), mixed(255, 4), mixed(255, 9)})
	for _, list := range lists {
		if got, want := impl.WorstCross(list), worst(list); got != want {
			t.Errorf("WorstCross(%.90q) = %d, want %d", list, got, want)
		}
	}
}

func TestNoWorstCross(t *testing.T) {
	lists := [][]string{
		nil, {}, slices.Repeat([]string{"1"}, 71), slices.Repeat([]string{"1001011"}, 71), slices.Repeat([]string{"1"}, 1000), manyOf(71, 31),
		{"1", "11"}, {"11", "1"}, {"11", "11", "1"}, {"1", "11", "11"}, {"11", "1", "11"}, {"10", "1010"}, append(slices.Repeat([]string{"10"}, 69), "1"),
	}
	for _, text := range invalidSequences {
		lists = append(lists, []string{text}, []string{text, text}, []string{text, "1001011"}, []string{"1001011", text}, []string{"1", "1", text})
		if len(text) > 0 && len(text) <= impl.MaxSequence {
			valid := strings.Repeat("0", len(text))
			lists = append(lists, []string{text, valid}, []string{valid, text}, []string{valid, text, valid}, append(slices.Repeat([]string{valid}, 69), text))
		}
	}
	for _, list := range lists {
		if got := impl.WorstCross(list); got != -1 {
			t.Errorf("WorstCross(%.90q) = %d, want -1", list, got)
		}
	}
}

func TestWalshCode(t *testing.T) {
	for order := range 7 {
		for i := range 1 << order {
			got, ok := impl.WalshCode(order, i)
			wantBits(t, callOf("WalshCode", order, i), got, ok, walsh(order, i))
		}
		for _, i := range []int{-1, -2, -64, 1 << order, 1<<order + 1, 64, 1000, math.MaxInt, math.MinInt} {
			got, ok := impl.WalshCode(order, i)
			wantNoBits(t, callOf("WalshCode", order, i), got, ok)
		}
	}
	for _, order := range noOrders {
		for _, i := range []int{-1, 0, 1, 63, 64, 127, 128, math.MaxInt, math.MinInt} {
			got, ok := impl.WalshCode(order, i)
			wantNoBits(t, callOf("WalshCode", order, i), got, ok)
		}
	}
	for _, c := range []struct {
		order, i int
		want     string
	}{{0, 0, "0"}, {1, 0, "00"}, {1, 1, "01"}, {2, 0, "0000"}, {2, 1, "0101"}, {2, 2, "0011"}, {2, 3, "0110"}, {3, 4, "00001111"}, {6, 0, strings.Repeat("0", 64)}, {6, 1, strings.Repeat("01", 32)}, {6, 32, strings.Repeat("0", 32) + strings.Repeat("1", 32)}} {
		got, ok := impl.WalshCode(c.order, c.i)
		wantBits(t, callOf("WalshCode", c.order, c.i), got, ok, c.want)
	}
}

func TestWalshIndex(t *testing.T) {
	codes := map[string]int{}
	for order := range 7 {
		for i := range 1 << order {
			codes[walsh(order, i)] = i
		}
	}
	for code, want := range codes {
		got, ok := impl.WalshIndex(code)
		wantNumber(t, fmt.Sprintf("WalshIndex(%q)", code), got, ok, want)
		for k := range len(code) {
			for _, bit := range []string{"0", "1", "2", "\x00", "\x01", "o", "\xff"} {
				other := code[:k] + bit + code[k+1:]
				if _, known := codes[other]; !known {
					got, ok := impl.WalshIndex(other)
					wantNoNumber(t, fmt.Sprintf("WalshIndex(%q)", other), got, ok)
				}
			}
		}
	}
	for s := range someSequences() {
		got, ok := impl.WalshIndex(s)
		if want, known := codes[s]; known {
			wantNumber(t, fmt.Sprintf("WalshIndex(%q)", s), got, ok, want)
		} else {
			wantNoNumber(t, fmt.Sprintf("WalshIndex(%q)", s), got, ok)
		}
	}
}

func TestNoWalshIndex(t *testing.T) {
	list := append(slices.Clone(invalidSequences), "1", "11", "10", "1111", "000", "011", strings.Repeat("01", 64), strings.Repeat("0", 512))
	for length := range 300 {
		if length > 64 || length&(length-1) != 0 {
			list = append(list, strings.Repeat("0", length), strings.Repeat("01", length)[:length])
		}
		list = append(list, strings.Repeat("1", length))
	}
	for order := range 7 {
		list = append(list, changed(walsh(order, 0)), " "+walsh(order, 0), walsh(order, 0)+"\n", walsh(order, 0)+"0"+walsh(order, 0))
	}
	for _, s := range list {
		got, ok := impl.WalshIndex(s)
		wantNoNumber(t, fmt.Sprintf("WalshIndex(%.70q)", s), got, ok)
	}
}

func TestWalshTransform(t *testing.T) {
	for _, list := range someTerms() {
		want := transformed(list)
		got := impl.WalshTransform(list)
		wantList(t, fmt.Sprintf("WalshTransform(%v)", list), got, want)
		// The transform of a transform has each number as often as there are numbers.
		if slices.ContainsFunc(got, func(n int) bool { return n < -1000000 || n > 1000000 }) {
			wantList(t, fmt.Sprintf("WalshTransform(%v)", got), impl.WalshTransform(got), nil)
			continue
		}
		for i, n := range impl.WalshTransform(got) {
			if n != len(list)*list[i] {
				t.Errorf("the transform of the transform of %v has %d at %d", list, n, i)
			}
		}
	}
	wantList(t, "WalshTransform", impl.WalshTransform([]int{1, 2, 3, 4}), []int{10, -2, -4, 0})
	wantList(t, "WalshTransform of one number", impl.WalshTransform([]int{-7}), []int{-7})
	if got := impl.WalshTransform(slices.Repeat([]int{-1000000}, 64)); len(got) != 64 || got[0] != -64000000 || got[63] != 0 {
		t.Errorf("WalshTransform of 64 numbers = %v", got)
	}
}

func TestNoWalshTransform(t *testing.T) {
	for length := range 300 {
		if length == 0 || length > 64 || length&(length-1) != 0 {
			wantList(t, fmt.Sprintf("WalshTransform of %d numbers", length), impl.WalshTransform(make([]int, length)), nil)
		}
	}
	wantList(t, "WalshTransform of none", impl.WalshTransform(nil), nil)
	for order := range 7 {
		for i := range 1 << order {
			for _, n := range []int{1000001, -1000001, 2000000, 1 << 32, math.MaxInt, math.MinInt} {
				list := make([]int, 1<<order)
				list[i] = n
				wantList(t, fmt.Sprintf("WalshTransform(%v)", list), impl.WalshTransform(list), nil)
			}
		}
	}
}

func TestTreeCode(t *testing.T) {
	paths := allPaths()
	if len(paths) != 127 {
		t.Fatalf("there are %d paths", len(paths))
	}
	for _, path := range paths {
		got, ok := impl.TreeCode(path)
		wantBits(t, fmt.Sprintf("TreeCode(%q)", path), got, ok, tree(path))
	}
	for path, want := range map[string]string{"": "0", "0": "00", "1": "01", "00": "0000", "01": "0011", "10": "0101", "11": "0110", "001": "00001111", "110": "01100110", "111": "01101001", "000000": strings.Repeat("0", 64), "100000": strings.Repeat("01", 32)} {
		got, ok := impl.TreeCode(path)
		wantBits(t, fmt.Sprintf("TreeCode(%q)", path), got, ok, want)
	}
	for _, path := range invalidPaths {
		got, ok := impl.TreeCode(path)
		wantNoBits(t, fmt.Sprintf("TreeCode(%.70q)", path), got, ok)
	}
}

func TestTreeConflict(t *testing.T) {
	paths := allPaths()
	for _, p := range paths {
		for _, q := range paths {
			if got, want := impl.TreeConflict(p, q), conflict(p, q); got != want {
				t.Errorf("TreeConflict(%q, %q) = %v", p, q, got)
			}
		}
		for _, q := range invalidPaths {
			if impl.TreeConflict(p, q) || impl.TreeConflict(q, p) {
				t.Errorf("TreeConflict of %q and %.70q", p, q)
			}
		}
	}
	for _, p := range invalidPaths {
		for _, q := range invalidPaths {
			if impl.TreeConflict(p, q) {
				t.Errorf("TreeConflict(%.70q, %.70q) = true", p, q)
			}
		}
	}
	if !impl.TreeConflict("", "") || !impl.TreeConflict("", "110") || !impl.TreeConflict("110", "") || !impl.TreeConflict("111111", "111111") || impl.TreeConflict("0", "10") {
		t.Error("TreeConflict")
	}
}

// wantFree holds both functions that look for free paths against the wanted ones.
func wantFree(t *testing.T, used []string, depth int, want []string) {
	t.Helper()
	call := fmt.Sprintf("(%.90q, %d)", used, depth)
	got, ok := impl.AllocateTree(used, depth)
	if len(want) > 0 {
		wantBits(t, "AllocateTree"+call, got, ok, want[0])
	} else {
		wantNoBits(t, "AllocateTree"+call, got, ok)
	}
	if got := impl.FreePaths(used, depth); got != len(want) {
		t.Errorf("FreePaths%s = %d, want %d", call, got, len(want))
	}
}

// wantNoFree reports free paths beside invalid arguments.
func wantNoFree(t *testing.T, used []string, depth int) {
	t.Helper()
	call := fmt.Sprintf("(%.90q, %d)", used, depth)
	got, ok := impl.AllocateTree(used, depth)
	wantNoBits(t, "AllocateTree"+call, got, ok)
	if got := impl.FreePaths(used, depth); got != -1 {
		t.Errorf("FreePaths%s = %d, want -1", call, got)
	}
}

func TestFreePaths(t *testing.T) {
	for _, used := range someUsed() {
		for depth := range 7 {
			wantFree(t, used, depth, free(used, depth))
		}
		for _, depth := range noOrders {
			wantNoFree(t, used, depth)
		}
	}
	for _, used := range invalidUsed() {
		for depth := -1; depth <= 7; depth++ {
			wantNoFree(t, used, depth)
		}
	}
}

func TestFreePathsByHand(t *testing.T) {
	all := pathsOf(6)
	wantFree(t, nil, 0, []string{""})
	wantFree(t, []string{"0"}, 0, nil)
	wantFree(t, []string{""}, 0, nil)
	wantFree(t, []string{""}, 6, nil)
	wantFree(t, []string{"00", "1"}, 2, []string{"01"})
	wantFree(t, []string{"0", "1"}, 2, nil)
	wantFree(t, []string{"00"}, 3, []string{"010", "011", "100", "101", "110", "111"})
	wantFree(t, []string{"0101"}, 2, []string{"00", "10", "11"})
	wantFree(t, []string{"000000"}, 1, []string{"1"})
	wantFree(t, []string{"0", "01", "01"}, 3, []string{"100", "101", "110", "111"})
	wantFree(t, nil, 6, all)
	// All but one of the longest paths are used, and equal ones make the list 70 paths long.
	used := slices.Concat(all[:63], slices.Repeat(all[:1], 7))
	wantFree(t, used, 6, all[63:])
	wantFree(t, used, 5, nil)
	wantNoFree(t, append(used, all[0]), 6)
}

func TestBarkerValid(t *testing.T) {
	for length := 1; length <= 13; length++ {
		for s := range sequencesOf(length) {
			if got := impl.BarkerValid(s); got != barker(s) {
				t.Errorf("BarkerValid(%q) = %v", s, got)
			}
		}
	}
	for _, s := range longSequences() {
		if got := impl.BarkerValid(s); got != barker(s) {
			t.Errorf("BarkerValid(%q) = %v", s, got)
		}
	}
	for _, s := range []string{"0", "1", "00", "01", "10", "11", "110", "1101", "1110", "11101", "1110010", "11100010010", "1111100110101", "0000011001010"} {
		if !impl.BarkerValid(s) {
			t.Errorf("BarkerValid(%q) = false", s)
		}
	}
	for _, s := range append(slices.Clone(invalidSequences), "000", "1111", "1001", "111111", "11111001101010") {
		if impl.BarkerValid(s) {
			t.Errorf("BarkerValid(%.40q) = true", s)
		}
	}
}

func TestFirstBarker(t *testing.T) {
	known := map[int]string{1: "0", 2: "00", 3: "001", 4: "0001", 5: "00010", 7: "0001101", 11: "00011101101", 13: "0000011001010"}
	for n := 1; n <= 13; n++ {
		first := ""
		for s := range sequencesOf(n) {
			if barker(s) {
				first = s
				break
			}
		}
		if first != known[n] {
			t.Errorf("the first Barker code of %d bits is %q, not %q", n, first, known[n])
		}
		got, ok := impl.FirstBarker(n)
		if first != "" {
			wantBits(t, callOf("FirstBarker", n), got, ok, first)
		} else {
			wantNoBits(t, callOf("FirstBarker", n), got, ok)
		}
	}
	for _, n := range []int{0, -1, -13, 14, 15, 62, 63, 64, 255, math.MaxInt, math.MinInt} {
		got, ok := impl.FirstBarker(n)
		wantNoBits(t, callOf("FirstBarker", n), got, ok)
	}
}

// TestPreferredPairsKeepTheBound is the first part of promise 3.
func TestPreferredPairsKeepTheBound(t *testing.T) {
	for size := 2; size <= 8; size++ {
		bound := impl.GoldBound(size)
		for _, pair := range impl.PreferredPairs(size) {
			codes := impl.GoldFamily(size, pair.A, pair.B)
			if got := impl.WorstCross(codes); got != bound || worst(codes) != bound {
				t.Errorf("the family of %d, %d, %d has %d, and the bound is %d", size, pair.A, pair.B, got, bound)
			}
			for i, a := range codes {
				for _, b := range codes[i+1:] {
					for _, value := range impl.CrossValues(a, b) {
						if value != -1 && value != -bound && value != bound-2 {
							t.Errorf("codes of %d, %d, %d have the correlation %d", size, pair.A, pair.B, value)
						}
					}
				}
			}
		}
	}
}

// TestWalshCodesAreOrthogonal is the second part of promise 3.
func TestWalshCodesAreOrthogonal(t *testing.T) {
	for order := range impl.MaxOrder + 1 {
		for i := range 1 << order {
			a, _ := impl.WalshCode(order, i)
			signs := make([]int, len(a))
			for k := range signs {
				signs[k] = 1 - 2*int(a[k]-'0')
			}
			sums := impl.WalshTransform(signs)
			for j := range 1 << order {
				want := 0
				if i == j {
					want = 1 << order
				}
				b, _ := impl.WalshCode(order, j)
				got, ok := impl.CrossOf(a, b, 0)
				wantNumber(t, callOf("CrossOf WalshCode", order, i, j), got, ok, want)
				if sums[j] != want {
					t.Errorf("the transform of the code %d of the order %d has %d at %d", i, order, sums[j], j)
				}
			}
		}
	}
}

// TestTreeCodesAreOrthogonal is the third part of promise 3: each part of the longer code that is as long as the shorter one is orthogonal to it.
func TestTreeCodesAreOrthogonal(t *testing.T) {
	for _, p := range allPaths() {
		for _, q := range allPaths() {
			if len(p) > len(q) {
				continue
			}
			short, _ := impl.TreeCode(p)
			long, _ := impl.TreeCode(q)
			for at := 0; at < len(long); at += len(short) {
				got, ok := impl.CrossOf(short, long[at:at+len(short)], 0)
				if impl.TreeConflict(p, q) {
					got = max(got, -got) - len(short)
				}
				wantNumber(t, fmt.Sprintf("the correlation of %q and %q at %d", p, q, at), got, ok, 0)
			}
		}
	}
}

// TestAllocatedPathsAreOrthogonal is the third part of promise 3 for paths that are given out one after the other.
func TestAllocatedPathsAreOrthogonal(t *testing.T) {
	var used []string
	for _, depth := range []int{3, 1, 6, 2, 6, 5, 4} {
		path, ok := impl.AllocateTree(used, depth)
		if !ok {
			t.Errorf("no path of %d bits is free beside %q", depth, used)
			continue
		}
		code, _ := impl.TreeCode(path)
		for _, other := range used {
			old, _ := impl.TreeCode(other)
			length := max(len(code), len(old))
			got, ok := impl.CrossOf(strings.Repeat(code, length/len(code)), strings.Repeat(old, length/len(old)), 0)
			wantNumber(t, fmt.Sprintf("the correlation of %q and %q", path, other), got, ok, 0)
		}
		used = append(used, path)
	}
	if want := []string{"000", "1", "001000", "01", "001001", "00101", "0011"}; !slices.Equal(used, want) {
		t.Errorf("the paths are %q, want %q", used, want)
	}
	wantFree(t, used, 6, nil)
}

// TestWalshCodesAreTreeCodes reads an index from its lowest binary digit on as a path.
func TestWalshCodesAreTreeCodes(t *testing.T) {
	for order := range impl.MaxOrder + 1 {
		for i := range 1 << order {
			path := ""
			for _, digit := range digits(i, order) {
				path += fmt.Sprint(digit)
			}
			code, ok := impl.TreeCode(path)
			wantBits(t, fmt.Sprintf("TreeCode(%q)", path), code, ok, walsh(order, i))
			got, ok := impl.WalshIndex(code)
			wantNumber(t, fmt.Sprintf("WalshIndex(%q)", code), got, ok, i)
		}
	}
}

func TestExampleOfFamilies(t *testing.T) {
	if got, want := impl.PreferredPairs(3), []impl.Pair{{A: 3, B: 5}}; !slices.Equal(got, want) {
		t.Errorf("PreferredPairs(3) = %v, want %v", got, want)
	}
	codes := impl.GoldFamily(3, 3, 5)
	if got := impl.WorstCross(codes); len(codes) != 9 || got != 5 {
		t.Errorf("the family has %d codes, and their WorstCross is %d", len(codes), got)
	}
	got, ok := impl.WalshCode(2, 3)
	wantBits(t, "WalshCode(2, 3)", got, ok, "0110")
	got, ok = impl.TreeCode("11")
	wantBits(t, "TreeCode(11)", got, ok, "0110")
}

// TestFamilyResultsAreNew changes a result, also in what is left of its memory, and asks again.
func TestFamilyResultsAreNew(t *testing.T) {
	pairs, more := impl.PreferredPairs(5), impl.PreferredPairs(5)
	want := slices.Clone(pairs)
	clear(pairs[:cap(pairs)])
	if !slices.Equal(more, want) || !slices.Equal(impl.PreferredPairs(5), want) {
		t.Error("PreferredPairs: a result shares memory with another one")
	}
	codes, others := impl.GoldFamily(3, 3, 5), impl.GoldFamily(3, 3, 5)
	clear(codes[:cap(codes)])
	if !slices.Equal(others, family(3, 3, 5)) || !slices.Equal(impl.GoldFamily(3, 3, 5), family(3, 3, 5)) {
		t.Error("GoldFamily: a result shares memory with another one")
	}
	list := []int{1, 2, 3, 4}
	sums, again := impl.WalshTransform(list), impl.WalshTransform(list)
	clear(sums[:cap(sums)])
	wantList(t, "WalshTransform", again, []int{10, -2, -4, 0})
	one := []int{5}
	impl.WalshTransform(one)[0] = 6
	wantList(t, "the argument of WalshTransform", append(one, list...), []int{5, 1, 2, 3, 4})
}

// TestFamilyArgumentsStay looks for changes of arguments and of the memory behind them.
func TestFamilyArgumentsStay(t *testing.T) {
	list := []int{9, -8, 7, -6, 5, 4, 3, 2}
	impl.WalshTransform(list[:4])
	impl.WalshTransform(list[:3])
	wantList(t, "the argument of WalshTransform", list, []int{9, -8, 7, -6, 5, 4, 3, 2})
	codes := []string{"110", "011", "001", "000", "101", "111"}
	impl.WorstCross(codes[:3])
	impl.AllocateTree(codes[:3], 3)
	impl.FreePaths(codes[:3], 2)
	if want := []string{"110", "011", "001", "000", "101", "111"}; !slices.Equal(codes, want) {
		t.Errorf("an argument has changed to %q", codes)
	}
}
