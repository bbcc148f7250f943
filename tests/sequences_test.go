package tests

import (
	"fmt"
	"math"
	"slices"
	"strings"
	"testing"

	"loop.example/spreadspectrum/impl"
)

// longest is a maximal register of 8 cells.
var longest = impl.Register{Size: 8, Taps: 29, State: 1}

// invalidSequences are empty, too long, or have bytes that are no bits.
var invalidSequences = []string{
	"",
	strings.Repeat("0", 256), strings.Repeat("1", 256), strings.Repeat("10", 128), strings.Repeat("0", 600), strings.Repeat("0", 601), strings.Repeat("1", 100000),
	"2", "/", " ", "-", "?", "a", "\n", "\x00", "\x01", "\xff", "\u0661", "\uff11",
	"12", "0 1", " 01", "01 ", "1001011\n", "2001011", "1002011", "1001012", "100101/", "1001-11", "100\x00011", "1001\xff11", "0x1", "10\u00e9",
	strings.Repeat("0", 254) + "2", "x" + strings.Repeat("0", 254),
}

// invalidPairs are two texts of which one is not a sequence, or which have different lengths.
func invalidPairs() [][2]string {
	list := [][2]string{
		{"11", "111"}, {"1", "11"}, {"10", "1010"}, {"0", strings.Repeat("0", 255)}, {strings.Repeat("1", 254), strings.Repeat("1", 255)},
	}
	for _, text := range invalidSequences {
		list = append(list, [2]string{text, text}, [2]string{text, "1001011"})
		if len(text) > 0 && len(text) <= impl.MaxSequence {
			list = append(list, [2]string{text, strings.Repeat("0", len(text))})
		}
	}
	for _, pair := range slices.Clone(list) {
		list = append(list, [2]string{pair[1], pair[0]})
	}
	return list
}

// shiftsOf returns shifts around 0 and around the length of a sequence, and far past them.
func shiftsOf(length int) []int {
	return []int{
		0, 1, 2, 3, -1, -2, -3,
		length - 1, length, length + 1, 1 - length, -length, -length - 1, 2*length + 1, -2*length - 1, 3 * length, 1000003, -1000003,
		1<<40 + 5, -1<<40 - 5, math.MaxInt, math.MaxInt - 1, math.MaxInt - length, math.MinInt, math.MinInt + 1, math.MinInt + length,
	}
}

// wantBits reports a result that is not the wanted text and true.
func wantBits(t *testing.T, call string, got string, ok bool, want string) {
	t.Helper()
	if got != want || !ok {
		t.Errorf("%s = %q, %v, want %q, true", call, got, ok, want)
	}
}

// wantNoBits reports a result that is not the empty string and false.
func wantNoBits(t *testing.T, call string, got string, ok bool) {
	t.Helper()
	if got != "" || ok {
		t.Errorf("%s = %.40q, %v, want an empty string, false", call, got, ok)
	}
}

// wantNumber reports a result that is not the wanted number and true.
func wantNumber(t *testing.T, call string, got int, ok bool, want int) {
	t.Helper()
	if got != want || !ok {
		t.Errorf("%s = %d, %v, want %d, true", call, got, ok, want)
	}
}

// wantNoNumber reports a result that is not 0 and false.
func wantNoNumber(t *testing.T, call string, got int, ok bool) {
	t.Helper()
	if got != 0 || ok {
		t.Errorf("%s = %d, %v, want 0, false", call, got, ok)
	}
}

// wantList reports a result that is not the wanted list.
func wantList(t *testing.T, call string, got, want []int) {
	t.Helper()
	if !slices.Equal(got, want) {
		t.Errorf("%s = %v, want %v", call, got, want)
	}
}

func TestSequenceValid(t *testing.T) {
	for s := range someSequences() {
		if !impl.SequenceValid(s) {
			t.Errorf("SequenceValid(%q) = false", s)
		}
	}
	for _, text := range invalidSequences {
		if impl.SequenceValid(text) {
			t.Errorf("SequenceValid(%.40q) = true", text)
		}
	}
	for length := range 300 {
		if got, want := impl.SequenceValid(strings.Repeat("1", length)), length >= 1 && length <= 255; got != want {
			t.Errorf("SequenceValid of %d bits = %v", length, got)
		}
	}
}

func TestNoByteButBitsIsValid(t *testing.T) {
	for b := range 256 {
		for _, text := range []string{string([]byte{byte(b)}), string([]byte{'0', byte(b), '1'})} {
			if got, want := impl.SequenceValid(text), b == '0' || b == '1'; got != want {
				t.Errorf("SequenceValid(%q) = %v", text, got)
			}
		}
	}
}

func TestShiftBits(t *testing.T) {
	for s := range someSequences() {
		for _, k := range shiftsOf(len(s)) {
			got, ok := impl.ShiftBits(s, k)
			wantBits(t, fmt.Sprintf("ShiftBits(%q, %d)", s, k), got, ok, shifted(s, k))
		}
	}
	cases := []struct {
		k    int
		want string
	}{
		{0, "1001011"}, {1, "0010111"}, {6, "1100101"}, {7, "1001011"}, {8, "0010111"}, {-1, "1100101"}, {-6, "0010111"}, {-7, "1001011"}, {-8, "1100101"},
		// 2 to the power of 63 is one more than a multiple of 7.
		{math.MaxInt, "1001011"}, {math.MinInt, "1100101"},
	}
	for _, c := range cases {
		got, ok := impl.ShiftBits("1001011", c.k)
		wantBits(t, fmt.Sprintf("ShiftBits(%d)", c.k), got, ok, c.want)
	}
	for _, text := range invalidSequences {
		for _, k := range []int{0, 1, -1, len(text), math.MaxInt, math.MinInt} {
			got, ok := impl.ShiftBits(text, k)
			wantNoBits(t, fmt.Sprintf("ShiftBits(%.40q, %d)", text, k), got, ok)
		}
	}
}

func TestAddBits(t *testing.T) {
	for a, b := range somePairs() {
		got, ok := impl.AddBits(a, b)
		wantBits(t, fmt.Sprintf("AddBits(%q, %q)", a, b), got, ok, sumOf(a, b))
	}
	got, ok := impl.AddBits("1100", "1010")
	wantBits(t, "AddBits", got, ok, "0110")
	for _, pair := range invalidPairs() {
		got, ok := impl.AddBits(pair[0], pair[1])
		wantNoBits(t, fmt.Sprintf("AddBits(%.40q, %.40q)", pair[0], pair[1]), got, ok)
	}
}

func TestInvertAndReverseBits(t *testing.T) {
	for s := range someSequences() {
		got, ok := impl.InvertBits(s)
		wantBits(t, fmt.Sprintf("InvertBits(%q)", s), got, ok, strings.NewReplacer("0", "1", "1", "0").Replace(s))
		got, ok = impl.ReverseBits(s)
		wantBits(t, fmt.Sprintf("ReverseBits(%q)", s), got, ok, reversed(s))
	}
	got, ok := impl.InvertBits("110")
	wantBits(t, "InvertBits", got, ok, "001")
	got, ok = impl.ReverseBits("110")
	wantBits(t, "ReverseBits", got, ok, "011")
	for _, text := range invalidSequences {
		got, ok := impl.InvertBits(text)
		wantNoBits(t, fmt.Sprintf("InvertBits(%.40q)", text), got, ok)
		got, ok = impl.ReverseBits(text)
		wantNoBits(t, fmt.Sprintf("ReverseBits(%.40q)", text), got, ok)
	}
}

func TestDecimateBits(t *testing.T) {
	for s := range someSequences() {
		for _, k := range []int{0, 1, 2, 3, 5, 7, 8, 100, 127, 128, 254, 255} {
			want := make([]byte, len(s))
			for i := range want {
				want[i] = at(s, k*i)
			}
			got, ok := impl.DecimateBits(s, k)
			wantBits(t, fmt.Sprintf("DecimateBits(%q, %d)", s, k), got, ok, string(want))
		}
		for _, k := range []int{-1, -2, -255, 256, 257, len(s) + 255, math.MaxInt, math.MinInt} {
			got, ok := impl.DecimateBits(s, k)
			wantNoBits(t, fmt.Sprintf("DecimateBits(%q, %d)", s, k), got, ok)
		}
	}
	cases := []struct {
		s    string
		k    int
		want string
	}{
		{"1001011", 3, "1110100"}, {"1001011", 2, "1001011"}, {"1001011", 0, "1111111"}, {"0110", 0, "0000"}, {"100", 255, "111"}, {"1001011", 255, "1110100"}, {"0111", 2, "0101"},
	}
	for _, c := range cases {
		got, ok := impl.DecimateBits(c.s, c.k)
		wantBits(t, fmt.Sprintf("DecimateBits(%q, %d)", c.s, c.k), got, ok, c.want)
	}
	for _, text := range invalidSequences {
		for _, k := range []int{0, 1, 255, -1, 256} {
			got, ok := impl.DecimateBits(text, k)
			wantNoBits(t, fmt.Sprintf("DecimateBits(%.40q, %d)", text, k), got, ok)
		}
	}
}

func TestBalanceOf(t *testing.T) {
	for s := range someSequences() {
		got, ok := impl.BalanceOf(s)
		wantNumber(t, fmt.Sprintf("BalanceOf(%q)", s), got, ok, strings.Count(s, "1")-strings.Count(s, "0"))
	}
	for s, want := range map[string]int{"0": -1, "1": 1, "10": 0, "0100": -2, strings.Repeat("0", 255): -255, strings.Repeat("1", 255): 255} {
		got, ok := impl.BalanceOf(s)
		wantNumber(t, fmt.Sprintf("BalanceOf(%q)", s), got, ok, want)
	}
	for _, text := range invalidSequences {
		got, ok := impl.BalanceOf(text)
		wantNoNumber(t, fmt.Sprintf("BalanceOf(%.40q)", text), got, ok)
	}
}

func TestRunLengths(t *testing.T) {
	for s := range someSequences() {
		wantList(t, fmt.Sprintf("RunLengths(%q)", s), impl.RunLengths(s), runs(s))
	}
	cases := []struct {
		s    string
		want []int
	}{
		{"0", []int{1}}, {"1", []int{1}}, {"000", []int{3}}, {strings.Repeat("1", 255), []int{255}},
		{"01", []int{1, 1}}, {"110", []int{1, 2}}, {"011", []int{1, 2}}, {"101", []int{1, 2}},
		{"1001", []int{2, 2}}, {"1011", []int{1, 3}}, {"110001", []int{3, 3}}, {"0110100", []int{1, 1, 2, 3}},
		// The runs are those of the whole length, also of a sequence that repeats before.
		{"1010", []int{1, 1, 1, 1}}, {"100100", []int{1, 1, 2, 2}},
		{"1" + strings.Repeat("0", 253) + "1", []int{2, 253}}, {strings.Repeat("0", 254) + "1", []int{1, 254}},
	}
	for _, c := range cases {
		wantList(t, fmt.Sprintf("RunLengths(%q)", c.s), impl.RunLengths(c.s), c.want)
	}
	for _, text := range invalidSequences {
		wantList(t, fmt.Sprintf("RunLengths(%.40q)", text), impl.RunLengths(text), nil)
	}
}

func TestCrossOf(t *testing.T) {
	for a, b := range somePairs() {
		for _, k := range shiftsOf(len(a)) {
			got, ok := impl.CrossOf(a, b, k)
			wantNumber(t, fmt.Sprintf("CrossOf(%q, %q, %d)", a, b, k), got, ok, correlation(a, b, k))
		}
	}
	cases := []struct {
		a, b    string
		k, want int
	}{
		{"110", "011", 0, -1}, {"110", "011", 1, 3}, {"110", "011", 2, -1}, {"110", "011", -2, 3}, {"011", "110", 1, -1}, {"011", "110", -1, 3},
		{"1", "0", 0, -1}, {"1", "1", 5, 1}, {"1010", "0101", 0, -4}, {"1010", "0101", 1, 4}, {"1001011", "0010111", 6, 7},
		{"110", "011", math.MaxInt, 3}, {"110", "011", math.MinInt, 3}, {"110", "011", math.MinInt + 1, -1},
	}
	for _, c := range cases {
		got, ok := impl.CrossOf(c.a, c.b, c.k)
		wantNumber(t, fmt.Sprintf("CrossOf(%q, %q, %d)", c.a, c.b, c.k), got, ok, c.want)
	}
	for _, pair := range invalidPairs() {
		for _, k := range []int{0, 1, -1, math.MaxInt, math.MinInt} {
			got, ok := impl.CrossOf(pair[0], pair[1], k)
			wantNoNumber(t, fmt.Sprintf("CrossOf(%.40q, %.40q, %d)", pair[0], pair[1], k), got, ok)
		}
	}
}

func TestAutoOf(t *testing.T) {
	for s := range someSequences() {
		for _, k := range shiftsOf(len(s)) {
			got, ok := impl.AutoOf(s, k)
			wantNumber(t, fmt.Sprintf("AutoOf(%q, %d)", s, k), got, ok, correlation(s, s, k))
		}
	}
	for _, text := range invalidSequences {
		for _, k := range []int{0, 1, -1, math.MaxInt, math.MinInt} {
			got, ok := impl.AutoOf(text, k)
			wantNoNumber(t, fmt.Sprintf("AutoOf(%.40q, %d)", text, k), got, ok)
		}
	}
}

func TestCrossTableAndValues(t *testing.T) {
	for a, b := range somePairs() {
		want := correlations(a, b)
		wantList(t, fmt.Sprintf("CrossTable(%q, %q)", a, b), impl.CrossTable(a, b), want)
		slices.Sort(want)
		wantList(t, fmt.Sprintf("CrossValues(%q, %q)", a, b), impl.CrossValues(a, b), slices.Compact(want))
	}
	wantList(t, "CrossTable", impl.CrossTable("110", "011"), []int{-1, 3, -1})
	wantList(t, "CrossValues", impl.CrossValues("110", "011"), []int{-1, 3})
	wantList(t, "CrossTable of one bit", impl.CrossTable("1", "0"), []int{-1})
	wantList(t, "CrossTable of equal bits", impl.CrossTable("111", "000"), []int{-3, -3, -3})
	wantList(t, "CrossValues of equal bits", impl.CrossValues("111", "000"), []int{-3})
	wantList(t, "CrossTable of other sequences", impl.CrossTable("1000", "1101"), []int{0, 0, -4, 0})
	for _, pair := range invalidPairs() {
		call := fmt.Sprintf("(%.40q, %.40q)", pair[0], pair[1])
		wantList(t, "CrossTable"+call, impl.CrossTable(pair[0], pair[1]), nil)
		wantList(t, "CrossValues"+call, impl.CrossValues(pair[0], pair[1]), nil)
	}
}

func TestPeakOf(t *testing.T) {
	for a, b := range somePairs() {
		table := correlations(a, b)
		if got, want := impl.PeakOf(a, b), slices.Index(table, slices.Max(table)); got != want {
			t.Errorf("PeakOf(%q, %q) = %d, want %d", a, b, got, want)
		}
	}
	cases := []struct {
		a, b string
		want int
	}{
		{"110", "011", 1}, {"011", "110", 2}, {"1001011", "0010111", 6}, {"1", "1", 0}, {"1", "0", 0},
		// Several shifts have the greatest correlation, which may be negative.
		{"11", "11", 0}, {"111", "000", 0}, {"1010", "0101", 1}, {"101010", "010101", 1}, {"110110", "101101", 2}, {"1000", "1101", 0},
	}
	for _, c := range cases {
		if got := impl.PeakOf(c.a, c.b); got != c.want {
			t.Errorf("PeakOf(%q, %q) = %d, want %d", c.a, c.b, got, c.want)
		}
	}
	for _, pair := range invalidPairs() {
		if got := impl.PeakOf(pair[0], pair[1]); got != -1 {
			t.Errorf("PeakOf(%.40q, %.40q) = %d", pair[0], pair[1], got)
		}
	}
}

func TestLeastPeriod(t *testing.T) {
	for s := range someSequences() {
		// The sequence comes back where the text is found again in two of it.
		if got, want := impl.LeastPeriod(s), 1+strings.Index((s + s)[1:], s); got != want {
			t.Errorf("LeastPeriod(%q) = %d, want %d", s, got, want)
		}
	}
	cases := map[string]int{
		"0": 1, "1": 1, "10": 2, "111": 1, "101010": 2, "10101": 5, "110110": 3, "1101101": 7, "100110011001": 4, "1001011": 7,
		strings.Repeat("0", 255): 1, strings.Repeat("1001011", 36): 7, strings.Repeat("1001011", 36) + "1": 253, strings.Repeat("0", 254) + "1": 255,
		strings.Repeat(mixed(85, 1)[:84]+"1", 3): 85,
	}
	for s, want := range cases {
		if got := impl.LeastPeriod(s); got != want {
			t.Errorf("LeastPeriod(%q) = %d, want %d", s, got, want)
		}
	}
	for _, text := range invalidSequences {
		if got := impl.LeastPeriod(text); got != -1 {
			t.Errorf("LeastPeriod(%.40q) = %d", text, got)
		}
	}
}

func TestFirstRotation(t *testing.T) {
	for s := range someSequences() {
		if got, want := impl.FirstRotation(s), slices.Min(rotations(s)); got != want {
			t.Errorf("FirstRotation(%q) = %q, want %q", s, got, want)
		}
	}
	cases := map[string]string{
		"0": "0", "1": "1", "10": "01", "01": "01", "111": "111", "1001011": "0010111", "101010": "010101", "110110": "011011", "0100": "0001",
		"1" + strings.Repeat("0", 254): strings.Repeat("0", 254) + "1",
	}
	for s, want := range cases {
		if got := impl.FirstRotation(s); got != want {
			t.Errorf("FirstRotation(%q) = %q, want %q", s, got, want)
		}
	}
	for _, text := range invalidSequences {
		if got := impl.FirstRotation(text); got != "" {
			t.Errorf("FirstRotation(%.40q) = %q", text, got)
		}
	}
}

func TestShiftBetween(t *testing.T) {
	for a, b := range somePairs() {
		got, ok := impl.ShiftBetween(a, b)
		if want := slices.Index(rotations(a), b); want >= 0 {
			wantNumber(t, fmt.Sprintf("ShiftBetween(%q, %q)", a, b), got, ok, want)
		} else {
			wantNoNumber(t, fmt.Sprintf("ShiftBetween(%q, %q)", a, b), got, ok)
		}
	}
	cases := []struct {
		a, b string
		want int
	}{
		{"1001011", "1001011", 0}, {"1001011", "0010111", 1}, {"0010111", "1001011", 6}, {"1", "1", 0},
		// Of several shifts it is the least one.
		{"111", "111", 0}, {"1010", "1010", 0}, {"1010", "0101", 1}, {"110110", "101101", 1}, {"110110", "011011", 2},
		{strings.Repeat("0", 254) + "1", "1" + strings.Repeat("0", 254), 254},
	}
	for _, c := range cases {
		got, ok := impl.ShiftBetween(c.a, c.b)
		wantNumber(t, fmt.Sprintf("ShiftBetween(%q, %q)", c.a, c.b), got, ok, c.want)
	}
	for _, pair := range [][2]string{{"1", "0"}, {"110", "111"}, {"1100", "1010"}, {"1001011", "1101001"}, {strings.Repeat("0", 255), strings.Repeat("1", 255)}} {
		got, ok := impl.ShiftBetween(pair[0], pair[1])
		wantNoNumber(t, fmt.Sprintf("ShiftBetween(%q, %q)", pair[0], pair[1]), got, ok)
	}
	for _, pair := range invalidPairs() {
		got, ok := impl.ShiftBetween(pair[0], pair[1])
		wantNoNumber(t, fmt.Sprintf("ShiftBetween(%.40q, %.40q)", pair[0], pair[1]), got, ok)
	}
}

func TestAperiodicOf(t *testing.T) {
	for s := range someSequences() {
		for k := range len(s) {
			want := 0
			for i := 0; i+k < len(s); i++ {
				if s[i] == s[i+k] {
					want++
				} else {
					want--
				}
			}
			got, ok := impl.AperiodicOf(s, k)
			wantNumber(t, fmt.Sprintf("AperiodicOf(%q, %d)", s, k), got, ok, want)
		}
		for _, k := range []int{-1, -len(s), len(s), len(s) + 1, 2 * len(s), 256, math.MaxInt, math.MinInt} {
			got, ok := impl.AperiodicOf(s, k)
			wantNoNumber(t, fmt.Sprintf("AperiodicOf(%q, %d)", s, k), got, ok)
		}
	}
	for k, want := range []int{5, 0, 1, 0, 1} {
		got, ok := impl.AperiodicOf("11101", k)
		wantNumber(t, fmt.Sprintf("AperiodicOf(11101, %d)", k), got, ok, want)
	}
	for _, text := range invalidSequences {
		for _, k := range []int{0, 1, -1, len(text) - 1} {
			got, ok := impl.AperiodicOf(text, k)
			wantNoNumber(t, fmt.Sprintf("AperiodicOf(%.40q, %d)", text, k), got, ok)
		}
	}
}

// maximalSequences returns the sequence of each maximal register, begun at several states.
func maximalSequences(t *testing.T) []string {
	var list []string
	for size := impl.MinSize; size <= impl.MaxSize; size++ {
		for _, taps := range impl.MaximalTaps(size) {
			for _, state := range []int{1, 1<<size - 1, 1 << (size - 1)} {
				s, ok := impl.RunRegister(impl.Register{Size: size, Taps: taps, State: state}, 1<<size-1)
				if !ok || !impl.SequenceValid(s) {
					t.Fatalf("the register %d %d %d has no sequence", size, taps, state)
				}
				list = append(list, s)
			}
		}
	}
	return list
}

// TestMaximalSequencesAgree is the first part of promise 2.
func TestMaximalSequencesAgree(t *testing.T) {
	for _, s := range maximalSequences(t) {
		n := len(s)
		for k := -n; k <= 2*n; k++ {
			want := -1
			if k%n == 0 {
				want = n
			}
			got, ok := impl.AutoOf(s, k)
			wantNumber(t, fmt.Sprintf("AutoOf(%q, %d)", s, k), got, ok, want)
			turn, _ := impl.ShiftBits(s, k)
			if same, different := agreements(s, turn); same-different != want {
				t.Errorf("%q and its shift by %d agree in %d bits and differ in %d", s, k, same, different)
			}
		}
		wantList(t, fmt.Sprintf("CrossValues of %q", s), impl.CrossValues(s, s), []int{-1, n})
		if impl.LeastPeriod(s) != n || impl.PeakOf(s, s) != 0 {
			t.Errorf("%q repeats early, or is more like a shift of itself than like itself", s)
		}
	}
}

// TestSumsOfShifts is the second part of promise 2.
func TestSumsOfShifts(t *testing.T) {
	for _, s := range maximalSequences(t) {
		for k := 1; k < len(s); k++ {
			turn, _ := impl.ShiftBits(s, k)
			sum, ok := impl.AddBits(s, turn)
			third, found := impl.ShiftBetween(s, sum)
			if !ok || !found || third == 0 || third == k {
				t.Errorf("the sum of %q and its shift by %d is %q, %v, the shift by %d, %v", s, k, sum, ok, third, found)
			}
			if again, _ := impl.ShiftBits(s, third); again != sum {
				t.Errorf("the shift of %q by %d is not the sum of it and its shift by %d", s, third, k)
			}
		}
	}
}

func TestExampleOfSequences(t *testing.T) {
	s := "1001011"
	got, ok := impl.BalanceOf(s)
	wantNumber(t, "BalanceOf", got, ok, 1)
	wantList(t, "RunLengths", impl.RunLengths(s), []int{1, 1, 2, 3})
	wantList(t, "CrossTable", impl.CrossTable(s, s), []int{7, -1, -1, -1, -1, -1, -1})
	for k, want := range []int{7, -1, -1, -1, -1, -1, -1} {
		got, ok := impl.AutoOf(s, k)
		wantNumber(t, fmt.Sprintf("AutoOf(%d)", k), got, ok, want)
	}
}

// TestSequenceResultsAreNew changes a result, also in what is left of its memory, and asks again.
func TestSequenceResultsAreNew(t *testing.T) {
	a, b := "1001011", "0010110"
	calls := map[string]func() []int{
		"RunLengths":  func() []int { return impl.RunLengths(a) },
		"CrossTable":  func() []int { return impl.CrossTable(a, b) },
		"CrossValues": func() []int { return impl.CrossValues(a, b) },
	}
	for name, call := range calls {
		first := call()
		want := slices.Clone(first)
		second := call()
		clear(first[:cap(first)])
		if !slices.Equal(second, want) || !slices.Equal(call(), want) {
			t.Errorf("%s: a result shares memory with another one", name)
		}
	}
	if a != "1001011" || b != "0010110" {
		t.Error("an argument has changed")
	}
}
