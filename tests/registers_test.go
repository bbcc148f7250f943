package tests

import (
	"fmt"
	"math"
	"slices"
	"strings"
	"testing"

	"loop.example/spreadspectrum/impl"
)

var none = impl.Register{}

// invalidRegisters are just past each bound of a valid register, and far past it.
var invalidRegisters = []impl.Register{
	{},
	{Size: 1, Taps: 1, State: 0}, {Size: 1, Taps: 1, State: 1},
	{Size: 9, Taps: 1, State: 0}, {Size: 9, Taps: 511, State: 511},
	{Size: 0, Taps: 1, State: 0}, {Size: -1, Taps: 1, State: 0}, {Size: -3, Taps: 3, State: 1},
	{Size: 63, Taps: 1, State: 1}, {Size: 64, Taps: 1, State: 1}, {Size: 66, Taps: 1, State: 1},
	{Size: math.MaxInt, Taps: 1, State: 0}, {Size: math.MinInt, Taps: 1, State: 0},
	{Size: 3, Taps: 0, State: 1}, {Size: 3, Taps: 8, State: 1}, {Size: 3, Taps: -1, State: 1}, {Size: 3, Taps: 11, State: 1},
	{Size: 2, Taps: 4, State: 1}, {Size: 8, Taps: 256, State: 1},
	{Size: 3, Taps: math.MaxInt, State: 1}, {Size: 3, Taps: math.MinInt, State: 1},
	{Size: 3, Taps: 3, State: 8}, {Size: 3, Taps: 3, State: -1}, {Size: 3, Taps: 3, State: 9},
	{Size: 2, Taps: 3, State: 4}, {Size: 8, Taps: 3, State: 256},
	{Size: 3, Taps: 3, State: math.MaxInt}, {Size: 3, Taps: 3, State: math.MinInt},
}

// invalidTaps are no size and taps.
var invalidTaps = [][2]int{
	{0, 0}, {0, 1}, {1, 1}, {9, 1}, {9, 511}, {-1, 1}, {-3, 3}, {63, 1}, {64, 1}, {66, 3},
	{math.MaxInt, 1}, {math.MinInt, 1},
	{2, 0}, {2, 4}, {2, -1}, {3, 0}, {3, 8}, {3, 11}, {3, -3}, {8, 0}, {8, 256}, {8, -1},
	{3, math.MaxInt}, {3, math.MinInt},
}

// wantRegister reports a result that is not the wanted register and true.
func wantRegister(t *testing.T, call string, got impl.Register, ok bool, want impl.Register) {
	t.Helper()
	if got != want || !ok {
		t.Errorf("%s = %v, %v, want %v, true", call, got, ok, want)
	}
}

// wantNone reports a result that is not the zero value and false.
func wantNone(t *testing.T, call string, got impl.Register, ok bool) {
	t.Helper()
	if got != none || ok {
		t.Errorf("%s = %v, %v, want the zero value, false", call, got, ok)
	}
}

func TestRegisterValid(t *testing.T) {
	for r := range allRegisters() {
		if !impl.RegisterValid(r) {
			t.Errorf("RegisterValid(%v) = false", r)
		}
	}
	for _, r := range invalidRegisters {
		if impl.RegisterValid(r) {
			t.Errorf("RegisterValid(%v) = true", r)
		}
	}
}

func TestFormatAndParseRegister(t *testing.T) {
	for r := range allRegisters() {
		text := fmt.Sprintf("%d %d %d", r.Size, r.Taps, r.State)
		if got := impl.FormatRegister(r); got != text {
			t.Errorf("FormatRegister(%v) = %q", r, got)
		}
		got, ok := impl.ParseRegister(text)
		wantRegister(t, fmt.Sprintf("ParseRegister(%q)", text), got, ok, r)
	}
	for _, r := range invalidRegisters {
		if got := impl.FormatRegister(r); got != "" {
			t.Errorf("FormatRegister(%v) = %q", r, got)
		}
		text := fmt.Sprintf("%d %d %d", r.Size, r.Taps, r.State)
		got, ok := impl.ParseRegister(text)
		wantNone(t, fmt.Sprintf("ParseRegister(%q)", text), got, ok)
	}
}

func TestParseRegisterOfOtherTexts(t *testing.T) {
	texts := []string{
		"", " ", "  ", "3", "3 3", "3 3 ", "3 3 1 ", " 3 3 1", "3  3 1", "3 3  1", "3 3 1 0", "3 3 1  ",
		"03 3 1", "3 03 1", "3 3 01", "3 3 00", "003 3 1", "8 0255 1",
		"+3 3 1", "3 +3 1", "3 3 +1", "3 3 +0", "-3 3 1", "3 -3 1", "3 3 -1", "3 3 -0",
		"3\t3\t1", "3 3 1\n", "\n3 3 1", "3,3,1", "331", "3 3 1\x00", "3 3 \xff", "\u0663 3 1", "3\u00a03 1",
		"a b c", "3 3 x", "3 x 1", "x 3 1", "3 3 0x1", "0x3 3 1", "3 3 1.0", "3 3 1e0", "8 1_0 1",
		"99999999999999999999 3 1", "3 99999999999999999999 1", "3 3 99999999999999999999",
		"18446744073709551619 3 1", "3 18446744073709551619 1", "3 3 18446744073709551617", "4294967299 3 1",
		strings.Repeat("3 ", 10000), strings.Repeat("3", 10000) + " 3 1",
	}
	for _, text := range texts {
		got, ok := impl.ParseRegister(text)
		wantNone(t, fmt.Sprintf("ParseRegister(%.40q)", text), got, ok)
	}
}

func TestParity(t *testing.T) {
	for n := range 5000 {
		if got, want := impl.Parity(n), strings.Count(fmt.Sprintf("%b", n), "1")%2; got != want {
			t.Errorf("Parity(%d) = %d, want %d", n, got, want)
		}
	}
	for i := range 63 {
		if got := impl.Parity(1 << i); got != 1 {
			t.Errorf("Parity(1<<%d) = %d", i, got)
		}
	}
	cases := map[int]int{math.MaxInt: 1, math.MaxInt - 1: 0, 1<<62 + 1: 0, -1: -1, -2: -1, -256: -1, math.MinInt: -1, math.MinInt + 1: -1}
	for n, want := range cases {
		if got := impl.Parity(n); got != want {
			t.Errorf("Parity(%d) = %d, want %d", n, got, want)
		}
	}
}

func TestStepAndBackRegister(t *testing.T) {
	for r := range allRegisters() {
		next := impl.Register{Size: r.Size, Taps: r.Taps, State: modelOf(r).next().state()}
		got, ok := impl.StepRegister(r)
		wantRegister(t, fmt.Sprintf("StepRegister(%v)", r), got, ok, next)
		got, ok = impl.BackRegister(next)
		if r.Taps%2 == 1 {
			wantRegister(t, fmt.Sprintf("BackRegister(%v)", next), got, ok, r)
		} else {
			wantNone(t, fmt.Sprintf("BackRegister(%v)", next), got, ok)
		}
	}
	for _, r := range invalidRegisters {
		got, ok := impl.StepRegister(r)
		wantNone(t, fmt.Sprintf("StepRegister(%v)", r), got, ok)
		got, ok = impl.BackRegister(r)
		wantNone(t, fmt.Sprintf("BackRegister(%v)", r), got, ok)
	}
}

func TestStateZeroStays(t *testing.T) {
	for size, taps := range allTaps() {
		r := impl.Register{Size: size, Taps: taps}
		got, ok := impl.StepRegister(r)
		wantRegister(t, fmt.Sprintf("StepRegister(%v)", r), got, ok, r)
		got, ok = impl.JumpRegister(r, impl.MaxJump)
		wantRegister(t, fmt.Sprintf("JumpRegister(%v, MaxJump)", r), got, ok, r)
		if bits, ok := impl.RunRegister(r, 20); bits != strings.Repeat("0", 20) || !ok {
			t.Errorf("RunRegister(%v, 20) = %q, %v", r, bits, ok)
		}
		if period, lead := impl.PeriodOf(r), impl.LeadOf(r); period != 1 || lead != 0 {
			t.Errorf("PeriodOf, LeadOf(%v) = %d, %d", r, period, lead)
		}
	}
}

func TestJumpRegister(t *testing.T) {
	for size, taps := range allTaps() {
		if size > 4 && taps%13 != 3 && taps%16 != 4 {
			continue
		}
		start := impl.Register{Size: size, Taps: taps, State: 1<<size - 2}
		m := modelOf(start)
		for k := range impl.MaxJump + 1 {
			want := impl.Register{Size: size, Taps: taps, State: m.state()}
			if k < 40 || k%619 == 0 || k >= impl.MaxJump-1 {
				checkJump(t, start, k, want)
			}
			m = m.next()
		}
	}
}

// checkJump checks a jump that leads from one register to another one, and the jump back.
func checkJump(t *testing.T, from impl.Register, k int, to impl.Register) {
	t.Helper()
	got, ok := impl.JumpRegister(from, k)
	wantRegister(t, fmt.Sprintf("JumpRegister(%v, %d)", from, k), got, ok, to)
	got, ok = impl.JumpRegister(to, -k)
	if k == 0 || from.Taps%2 == 1 {
		wantRegister(t, fmt.Sprintf("JumpRegister(%v, %d)", to, -k), got, ok, from)
	} else {
		wantNone(t, fmt.Sprintf("JumpRegister(%v, %d)", to, -k), got, ok)
	}
}

func TestJumpRegisterPastItsLimits(t *testing.T) {
	tapped, untapped := impl.Register{Size: 3, Taps: 3, State: 1}, impl.Register{Size: 3, Taps: 2, State: 5}
	for _, k := range []int{impl.MaxJump + 1, -impl.MaxJump - 1, math.MaxInt, math.MinInt, math.MinInt + 1, 1 << 40} {
		for _, r := range []impl.Register{tapped, untapped, {Size: 3, Taps: 3}} {
			got, ok := impl.JumpRegister(r, k)
			wantNone(t, fmt.Sprintf("JumpRegister(%v, %d)", r, k), got, ok)
		}
	}
	for _, k := range []int{-1, -2, -7, -impl.MaxJump} {
		for _, r := range []impl.Register{untapped, {Size: 3, Taps: 2}} {
			got, ok := impl.JumpRegister(r, k)
			wantNone(t, fmt.Sprintf("JumpRegister(%v, %d)", r, k), got, ok)
		}
	}
	for _, r := range invalidRegisters {
		for _, k := range []int{0, 1, -1, impl.MaxJump, -impl.MaxJump} {
			got, ok := impl.JumpRegister(r, k)
			wantNone(t, fmt.Sprintf("JumpRegister(%v, %d)", r, k), got, ok)
		}
	}
}

func TestRunRegister(t *testing.T) {
	for r := range allRegisters() {
		if bits, ok := impl.RunRegister(r, 24); bits != modelOf(r).bits(24) || !ok {
			t.Errorf("RunRegister(%v, 24) = %q, %v", r, bits, ok)
		}
	}
	for _, r := range []impl.Register{{Size: 8, Taps: 29, State: 1}, {Size: 2, Taps: 2, State: 1}, {Size: 5, Taps: 16, State: 30}} {
		for _, count := range []int{0, 1, 2, 599, impl.MaxBits} {
			if bits, ok := impl.RunRegister(r, count); bits != modelOf(r).bits(count) || !ok {
				t.Errorf("RunRegister(%v, %d) = %q, %v", r, count, bits, ok)
			}
		}
		for _, count := range []int{-1, impl.MaxBits + 1, math.MaxInt, math.MinInt} {
			if bits, ok := impl.RunRegister(r, count); bits != "" || ok {
				t.Errorf("RunRegister(%v, %d) = %q, %v", r, count, bits, ok)
			}
		}
	}
	for _, r := range invalidRegisters {
		for _, count := range []int{0, 1, 7} {
			if bits, ok := impl.RunRegister(r, count); bits != "" || ok {
				t.Errorf("RunRegister(%v, %d) = %q, %v", r, count, bits, ok)
			}
		}
	}
}

func TestRegisterFrom(t *testing.T) {
	for r := range allRegisters() {
		bits := modelOf(r).bits(r.Size)
		got, ok := impl.RegisterFrom(r.Size, r.Taps, bits)
		wantRegister(t, fmt.Sprintf("RegisterFrom(%d, %d, %q)", r.Size, r.Taps, bits), got, ok, r)
	}
	for _, bits := range []string{"", "0", "00", "10", "0010", "0000", "1001011", strings.Repeat("0", 601),
		"01x", "x01", "0x1", "002", "0 1", "01 ", "/01", "0\n1", "\x00\x01\x00", "01\xff", "-01", "\uff11", "0\u00e9"} {
		got, ok := impl.RegisterFrom(3, 3, bits)
		wantNone(t, fmt.Sprintf("RegisterFrom(3, 3, %.20q)", bits), got, ok)
	}
	for _, pair := range invalidTaps {
		for _, bits := range []string{"", "0", "00", "001", "00000001", "000000001", strings.Repeat("1", max(0, min(pair[0], 100)))} {
			got, ok := impl.RegisterFrom(pair[0], pair[1], bits)
			wantNone(t, fmt.Sprintf("RegisterFrom(%d, %d, %q)", pair[0], pair[1], bits), got, ok)
		}
	}
}

func TestAddRegisters(t *testing.T) {
	for a := range allRegisters() {
		for _, state := range []int{0, 1, a.State, 1<<a.Size - 1, a.State * 5 % (1 << a.Size)} {
			b := impl.Register{Size: a.Size, Taps: a.Taps, State: state}
			sum, ok := impl.AddRegisters(a, b)
			if !ok || sum.Size != a.Size || sum.Taps != a.Taps {
				t.Fatalf("AddRegisters(%v, %v) = %v, %v", a, b, sum, ok)
			}
			// What the sum says is held against the bits: those of the sum are the sums of the bits.
			if got, want := modelOf(sum).bits(10), sumOf(modelOf(a).bits(10), modelOf(b).bits(10)); got != want {
				t.Errorf("the bits of AddRegisters(%v, %v) are %q, want %q", a, b, got, want)
			}
		}
	}
}

func TestAddRegistersThatDoNotFit(t *testing.T) {
	r := impl.Register{Size: 3, Taps: 3, State: 1}
	for _, other := range append([]impl.Register{{Size: 4, Taps: 3, State: 1}, {Size: 2, Taps: 3, State: 1}, {Size: 3, Taps: 5, State: 1}}, invalidRegisters...) {
		got, ok := impl.AddRegisters(r, other)
		wantNone(t, fmt.Sprintf("AddRegisters(%v, %v)", r, other), got, ok)
		got, ok = impl.AddRegisters(other, r)
		wantNone(t, fmt.Sprintf("AddRegisters(%v, %v)", other, r), got, ok)
	}
	for _, invalid := range invalidRegisters {
		got, ok := impl.AddRegisters(invalid, invalid)
		wantNone(t, fmt.Sprintf("AddRegisters(%v, %v)", invalid, invalid), got, ok)
	}
	// Both states are past the limit, but their sum is not.
	past := impl.Register{Size: 3, Taps: 3, State: 8}
	got, ok := impl.AddRegisters(past, impl.Register{Size: 3, Taps: 3, State: 9})
	wantNone(t, "AddRegisters of states past the limit", got, ok)
}

func TestPeriodAndLead(t *testing.T) {
	for r := range allRegisters() {
		if r.Size > 6 && r.State%7 != 1 {
			continue
		}
		lead, period := modelOf(r).orbit()
		if got := impl.PeriodOf(r); got != period {
			t.Errorf("PeriodOf(%v) = %d, want %d", r, got, period)
		}
		if got := impl.LeadOf(r); got != lead {
			t.Errorf("LeadOf(%v) = %d, want %d", r, got, lead)
		}
	}
	cases := []struct {
		r            impl.Register
		period, lead int
	}{
		{impl.Register{Size: 3, Taps: 3, State: 1}, 7, 0},
		{impl.Register{Size: 3, Taps: 4, State: 1}, 1, 1},
		{impl.Register{Size: 3, Taps: 4, State: 7}, 1, 0},
		{impl.Register{Size: 8, Taps: 128, State: 1}, 1, 1},
		{impl.Register{Size: 8, Taps: 128, State: 64}, 1, 7},
		{impl.Register{Size: 8, Taps: 1, State: 1}, 8, 0},
		{impl.Register{Size: 3, Taps: 2, State: 5}, 2, 0},
		{impl.Register{Size: 3, Taps: 2, State: 1}, 1, 1},
	}
	for _, c := range cases {
		if period, lead := impl.PeriodOf(c.r), impl.LeadOf(c.r); period != c.period || lead != c.lead {
			t.Errorf("PeriodOf, LeadOf(%v) = %d, %d, want %d, %d", c.r, period, lead, c.period, c.lead)
		}
	}
	for _, r := range invalidRegisters {
		if period, lead := impl.PeriodOf(r), impl.LeadOf(r); period != -1 || lead != -1 {
			t.Errorf("PeriodOf, LeadOf(%v) = %d, %d", r, period, lead)
		}
	}
}

func TestCycleLengths(t *testing.T) {
	for size, taps := range allTaps() {
		if got, want := impl.CycleLengths(size, taps), cycles(size, taps); !slices.Equal(got, want) {
			t.Errorf("CycleLengths(%d, %d) = %v, want %v", size, taps, got, want)
		}
	}
	cases := []struct {
		size, taps int
		want       []int
	}{
		{2, 1, []int{1, 1, 2}},
		{2, 2, []int{1, 1}},
		{2, 3, []int{1, 3}},
		{3, 3, []int{1, 7}},
		{3, 7, []int{1, 1, 2, 4}},
		{3, 4, []int{1, 1}},
		{4, 1, []int{1, 1, 2, 4, 4, 4}},
	}
	for _, c := range cases {
		if got := impl.CycleLengths(c.size, c.taps); !slices.Equal(got, c.want) {
			t.Errorf("CycleLengths(%d, %d) = %v, want %v", c.size, c.taps, got, c.want)
		}
	}
	for _, pair := range invalidTaps {
		if got := impl.CycleLengths(pair[0], pair[1]); len(got) != 0 {
			t.Errorf("CycleLengths(%d, %d) = %v", pair[0], pair[1], got)
		}
	}
}

func TestMaximal(t *testing.T) {
	want := map[int][]int{}
	for size, taps := range allTaps() {
		_, period := modelOf(impl.Register{Size: size, Taps: taps, State: 1}).orbit()
		maximal := period == 1<<size-1
		if got := impl.IsMaximal(size, taps); got != maximal {
			t.Errorf("IsMaximal(%d, %d) = %v", size, taps, got)
		}
		if maximal {
			want[size] = append(want[size], taps)
		}
	}
	counts := map[int]int{2: 1, 3: 2, 4: 2, 5: 6, 6: 6, 7: 18, 8: 16}
	for size, count := range counts {
		if got := impl.MaximalTaps(size); !slices.Equal(got, want[size]) || len(got) != count {
			t.Errorf("MaximalTaps(%d) = %v, want the %d taps %v", size, got, count, want[size])
		}
	}
	for _, pair := range invalidTaps {
		if impl.IsMaximal(pair[0], pair[1]) {
			t.Errorf("IsMaximal(%d, %d) = true", pair[0], pair[1])
		}
	}
	for _, size := range []int{-1, 0, 1, 9, 16, 62, 63, 64, -2, math.MaxInt, math.MinInt} {
		if got := impl.MaximalTaps(size); len(got) != 0 {
			t.Errorf("MaximalTaps(%d) = %v", size, got)
		}
	}
}

func TestReverseTaps(t *testing.T) {
	for size, taps := range allTaps() {
		back := impl.ReverseTaps(size, taps)
		if taps%2 == 0 {
			if back != -1 {
				t.Errorf("ReverseTaps(%d, %d) = %d", size, taps, back)
			}
			continue
		}
		if again := impl.ReverseTaps(size, back); again != taps {
			t.Errorf("ReverseTaps(%d, %d) = %d, and of these %d", size, taps, back, again)
		}
		for state := range 1 << size {
			bits := reversed(modelOf(impl.Register{Size: size, Taps: taps, State: state}).bits(24))
			r, ok := impl.RegisterFrom(size, back, bits[:size])
			if !ok || modelOf(r).bits(24) != bits {
				t.Fatalf("ReverseTaps(%d, %d) = %d does not have the bits %q", size, taps, back, bits)
			}
		}
	}
	cases := [][3]int{{2, 1, 1}, {2, 3, 3}, {3, 3, 5}, {3, 5, 3}, {3, 7, 7}, {8, 1, 1}, {8, 3, 129}, {8, 255, 255}}
	for _, c := range cases {
		if got := impl.ReverseTaps(c[0], c[1]); got != c[2] {
			t.Errorf("ReverseTaps(%d, %d) = %d, want %d", c[0], c[1], got, c[2])
		}
	}
	for _, pair := range invalidTaps {
		if got := impl.ReverseTaps(pair[0], pair[1]); got != -1 {
			t.Errorf("ReverseTaps(%d, %d) = %d", pair[0], pair[1], got)
		}
	}
}

func TestShortestRegisterOfAllShortBits(t *testing.T) {
	for n := range 256 {
		bits := fmt.Sprintf("%08b", n)
		want, found := shortest(bits)
		if !found {
			t.Fatalf("a register of 8 cells begins with any 8 bits, but none with %q", bits)
		}
		got, ok := impl.ShortestRegister(bits)
		wantRegister(t, fmt.Sprintf("ShortestRegister(%q)", bits), got, ok, want)
	}
}

func TestShortestRegisterOfLongerBits(t *testing.T) {
	bits := "1"
	for len(bits) < 64 {
		bits += fmt.Sprintf("%b", len(bits)*len(bits)*7919)
	}
	bits = bits[:64]
	for length := 9; length <= 24; length++ {
		for from := range 3 {
			part := bits[from*9 : from*9+length]
			want, found := shortest(part)
			got, ok := impl.ShortestRegister(part)
			if got != want || ok != found {
				t.Errorf("ShortestRegister(%q) = %v, %v, want %v, %v", part, got, ok, want, found)
			}
		}
	}
}

func TestShortestRegisterCases(t *testing.T) {
	cases := []struct {
		bits string
		want impl.Register
	}{
		{"1001011100", impl.Register{Size: 3, Taps: 3, State: 1}},
		{"00000000", impl.Register{Size: 2, Taps: 1, State: 0}},
		{strings.Repeat("0", 64), impl.Register{Size: 2, Taps: 1, State: 0}},
		{strings.Repeat("1", 64), impl.Register{Size: 2, Taps: 1, State: 3}},
		{strings.Repeat("01", 32), impl.Register{Size: 2, Taps: 1, State: 2}},
		{"01111111", impl.Register{Size: 2, Taps: 2, State: 2}},
		{"10000000", impl.Register{Size: 2, Taps: 2, State: 1}},
		{"00000001", impl.Register{Size: 8, Taps: 1, State: 128}},
		{"000000011", impl.Register{Size: 8, Taps: 128, State: 128}},
		{"000000010", impl.Register{Size: 8, Taps: 1, State: 128}},
	}
	for _, c := range cases {
		got, ok := impl.ShortestRegister(c.bits)
		wantRegister(t, fmt.Sprintf("ShortestRegister(%q)", c.bits), got, ok, c.want)
	}
}

func TestShortestRegisterWithoutOne(t *testing.T) {
	var texts []string
	// The state 0 never gets a one, so that no register of up to 8 cells begins with 8 zeros and then has one.
	for length := 9; length <= 64; length++ {
		texts = append(texts, strings.Repeat("0", length-1)+"1")
	}
	maximal := impl.Register{Size: 8, Taps: 29, State: 1}
	bits := modelOf(maximal).bits(66)
	for _, length := range []int{0, 1, 2, 6, 7, 65, 66} {
		texts = append(texts, bits[:length], strings.Repeat("0", length))
	}
	// One changed bit at the end is more than a register can tell.
	texts = append(texts, bits[:63]+string('0'+'1'-bits[63]))
	texts = append(texts, strings.Repeat("0", 600), strings.Repeat("0", 601), strings.Repeat("0", 5000))
	texts = append(texts, "0000000x", "x0000000", "00000002", "0000 000", "00000000 ", "00000000\n", "/0000000", "0000000\x00", "abcdefgh", "0000000\xff", "\u06f0\u06f0\u06f0\u06f0")
	for _, text := range texts {
		got, ok := impl.ShortestRegister(text)
		wantNone(t, fmt.Sprintf("ShortestRegister(%.70q)", text), got, ok)
	}
	got, ok := impl.ShortestRegister(bits[:64])
	wantRegister(t, "ShortestRegister of 64 bits", got, ok, maximal)
	if got, ok := impl.ShortestRegister(bits[:8]); !ok || modelOf(got).bits(8) != bits[:8] {
		t.Errorf("ShortestRegister of 8 bits = %v, %v", got, ok)
	}
}

// TestBitsDetermineRegister is the first part of promise 1: from 16 bits on, what continues the bits is determined, however long they go on.
func TestBitsDetermineRegister(t *testing.T) {
	for r := range allRegisters() {
		if r.Size > 5 && (r.Taps*31+r.State)%41 != 0 {
			continue
		}
		bits, _ := impl.RunRegister(r, 16)
		short, ok := impl.ShortestRegister(bits)
		if !ok || short.Size > r.Size || short.Size == r.Size && short.Taps > r.Taps {
			t.Fatalf("ShortestRegister of the bits of %v = %v, %v", r, short, ok)
		}
		got, _ := impl.RunRegister(short, impl.MaxBits)
		want, _ := impl.RunRegister(r, impl.MaxBits)
		if got != want {
			t.Errorf("ShortestRegister of the bits of %v = %v, which goes on with other bits", r, short)
		}
	}
}

// TestSumsOfRegisters is the second part of promise 1.
func TestSumsOfRegisters(t *testing.T) {
	for size, taps := range allTaps() {
		for i := range 6 {
			a := impl.Register{Size: size, Taps: taps, State: (i * 37) % (1 << size)}
			b := impl.Register{Size: size, Taps: taps, State: (i*i*11 + 2) % (1 << size)}
			sum, _ := impl.AddRegisters(a, b)
			bitsA, _ := impl.RunRegister(a, 100)
			bitsB, _ := impl.RunRegister(b, 100)
			if got, ok := impl.RunRegister(sum, 100); got != sumOf(bitsA, bitsB) || !ok {
				t.Errorf("the sum of %v and %v does not have the sums of the bits", a, b)
			}
		}
	}
}

// TestMaximalRegistersVisitAllStates is the third part of promise 1.
func TestMaximalRegistersVisitAllStates(t *testing.T) {
	for size := impl.MinSize; size <= impl.MaxSize; size++ {
		for _, taps := range impl.MaximalTaps(size) {
			visited := map[int]bool{}
			r := impl.Register{Size: size, Taps: taps, State: 1}
			for range 1<<size - 1 {
				visited[r.State] = true
				r, _ = impl.StepRegister(r)
			}
			if r.State != 1 || visited[0] || len(visited) != 1<<size-1 {
				t.Errorf("the register %d %d 1 visits %d states", size, taps, len(visited))
			}
			if got := impl.CycleLengths(size, taps); !slices.Equal(got, []int{1, 1<<size - 1}) {
				t.Errorf("CycleLengths(%d, %d) = %v", size, taps, got)
			}
		}
	}
}

func TestExampleOfRegisters(t *testing.T) {
	r, ok := impl.ParseRegister("3 3 1")
	wantRegister(t, "ParseRegister", r, ok, impl.Register{Size: 3, Taps: 3, State: 1})
	if bits, ok := impl.RunRegister(r, 14); bits != "10010111001011" || !ok {
		t.Errorf("RunRegister = %q, %v", bits, ok)
	}
	if !impl.IsMaximal(r.Size, r.Taps) || impl.PeriodOf(r) != 7 {
		t.Error("the register of the example is not maximal")
	}
}

// TestRegisterResultsAreNew changes a result, also in what is left of its memory, and asks again.
func TestRegisterResultsAreNew(t *testing.T) {
	calls := map[string]func() []int{
		"CycleLengths": func() []int { return impl.CycleLengths(4, 1) },
		"MaximalTaps":  func() []int { return impl.MaximalTaps(8) },
	}
	for name, call := range calls {
		first := call()
		want := slices.Clone(first)
		second := call()
		clear(first[:cap(first)])
		if !slices.Equal(second, want) || !slices.Equal(call(), want) {
			t.Errorf("%s: a result shares memory with another one", name)
		}
	}
}
