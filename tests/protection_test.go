package tests

import (
	"fmt"
	"math/rand/v2"
	"slices"
	"strings"
	"testing"

	"loop.example/spreadspectrum/impl"
)

// wantDecoded reports a result that is not the wanted data, the number of changed bits, and true.
func wantDecoded(t *testing.T, bits string, want string, wantCount int) {
	t.Helper()
	got, count, ok := impl.HammingDecode(bits)
	if got != want || count != wantCount || !ok {
		t.Errorf("%s = %q, %d, %v, want %q, %d, true", short("HammingDecode", bits), got, count, ok, want, wantCount)
	}
}

// wantNoDecoded reports a result of HammingDecode that is not the empty string, 0 and false.
func wantNoDecoded(t *testing.T, bits string) {
	t.Helper()
	got, count, ok := impl.HammingDecode(bits)
	if got != "" || count != 0 || ok {
		t.Errorf("%s = %q, %d, %v, want none", short("HammingDecode", bits), got, count, ok)
	}
}

// wantNoPair reports results of two functions, the second of which undoes the first one, that are not empty and false.
func wantNoPair(t *testing.T, name string, make, undo func(string, int) (string, bool), bits string, n int) {
	t.Helper()
	got, ok := make(bits, n)
	wantNoBits(t, short(name, n, bits), got, ok)
	got, ok = undo(bits, n)
	wantNoBits(t, short("what undoes "+name, n, bits), got, ok)
}

func TestRepeatBits(t *testing.T) {
	for _, bits := range someBits() {
		for _, n := range []int{1, 3, 5, 7, 9} {
			got, ok := impl.RepeatBits(bits, n)
			if len(bits)*n > 600 {
				wantNoBits(t, short("RepeatBits", n, bits), got, ok)
				continue
			}
			wantBits(t, short("RepeatBits", n, bits), got, ok, repeated(bits, n))
			back, ok := impl.MajorityBits(got, n)
			wantBits(t, short("MajorityBits of RepeatBits", n, bits), back, ok, bits)
		}
	}
	for _, c := range []struct {
		bits string
		n    int
		want string
	}{{"", 1, ""}, {"", 9, ""}, {"01", 1, "01"}, {"01", 3, "000111"}, {"10", 5, "1111100000"}, {"1", 7, "1111111"}, {"0", 9, "000000000"}} {
		got, ok := impl.RepeatBits(c.bits, c.n)
		wantBits(t, short("RepeatBits", c.n, c.bits), got, ok, c.want)
	}
	// The most bits of each number of repetitions, and one more.
	for n, most := range map[int]int{1: 600, 3: 200, 5: 120, 7: 85, 9: 66} {
		got, ok := impl.RepeatBits(mixed(most, 2), n)
		wantBits(t, callOf("RepeatBits", most, n), got, ok, repeated(mixed(most, 2), n))
		got, ok = impl.RepeatBits(mixed(most+1, 2), n)
		wantNoBits(t, callOf("RepeatBits", most+1, n), got, ok)
	}
}

func TestMajorityBits(t *testing.T) {
	random := rand.New(rand.NewPCG(6, 6))
	for _, bits := range append(someBits(), randomBits(random, 9), randomBits(random, 270), randomBits(random, 594)) {
		for _, n := range []int{1, 3, 5, 7, 9} {
			got, ok := impl.MajorityBits(bits, n)
			if len(bits)%n != 0 {
				wantNoBits(t, short("MajorityBits", n, bits), got, ok)
				continue
			}
			wantBits(t, short("MajorityBits", n, bits), got, ok, voted(bits, n))
		}
	}
	for _, n := range []int{1, 3, 5, 7, 9} {
		for bits := range sequencesOf(n) {
			want := "0"
			if 2*strings.Count(bits, "1") > n {
				want = "1"
			}
			got, ok := impl.MajorityBits(bits, n)
			wantBits(t, short("MajorityBits", n, bits), got, ok, want)
		}
	}
	for bits, want := range map[string]string{"": "", "010110": "01", "111000": "10", "001101": "01", "100011000": "010"} {
		got, ok := impl.MajorityBits(bits, 3)
		wantBits(t, short("MajorityBits", bits), got, ok, want)
	}
}

func TestNoRepetitions(t *testing.T) {
	for _, n := range noRepetitions {
		for _, bits := range []string{"", "0", "01", "0110", strings.Repeat("0", 11), mixed(60, 2), strings.Repeat("1", 600)} {
			wantNoPair(t, "RepeatBits", impl.RepeatBits, impl.MajorityBits, bits, n)
		}
	}
	for _, bits := range invalidBits {
		for _, n := range []int{-1, 0, 1, 2, 3, 9, 11} {
			wantNoPair(t, "RepeatBits", impl.RepeatBits, impl.MajorityBits, bits, n)
		}
		wantNoPair(t, "RepeatBits", impl.RepeatBits, impl.MajorityBits, bits+bits+bits, 3)
	}
}

// TestRepetitionsCorrect: fewer than half of the repetitions of each bit may be wrong.
func TestRepetitionsCorrect(t *testing.T) {
	random := rand.New(rand.NewPCG(6, 7))
	for _, n := range []int{1, 3, 5, 7, 9} {
		for range 200 {
			bits := randomBits(random, random.IntN(600/n))
			sent, _ := impl.RepeatBits(bits, n)
			for i := range len(bits) {
				for _, k := range random.Perm(n)[:n/2] {
					sent = flipped(sent, i*n+k)
				}
			}
			got, ok := impl.MajorityBits(sent, n)
			wantBits(t, short("MajorityBits", n, sent), got, ok, bits)
		}
	}
}

func TestHammingEncode(t *testing.T) {
	for _, bits := range someBits() {
		got, ok := impl.HammingEncode(bits)
		if len(bits)%4 != 0 || len(bits) > 340 {
			wantNoBits(t, short("HammingEncode", bits), got, ok)
			continue
		}
		wantBits(t, short("HammingEncode", bits), got, ok, blocks(bits))
		wantDecoded(t, got, bits, 0)
	}
	for bits, want := range map[string]string{
		"": "", "0000": "0000000", "1000": "1110000", "0100": "1001100", "0010": "0101010", "0001": "1101001", "1011": "0110011", "1111": "1111111", "10000001": "11100001101001",
	} {
		got, ok := impl.HammingEncode(bits)
		wantBits(t, short("HammingEncode", bits), got, ok, want)
	}
	for length := range 601 {
		bits := mixed(length, 3)
		got, ok := impl.HammingEncode(bits)
		if length%4 == 0 && length <= 340 {
			wantBits(t, callOf("HammingEncode", length), got, ok, blocks(bits))
		} else {
			wantNoBits(t, callOf("HammingEncode", length), got, ok)
		}
	}
	for _, bits := range append([]string{"012 ", "0101x", "012", "00000002"}, invalidBits...) {
		got, ok := impl.HammingEncode(bits)
		wantNoBits(t, short("HammingEncode", bits), got, ok)
	}
}

func TestHammingSyndrome(t *testing.T) {
	for bits := range sequencesOf(7) {
		wantInt(t, short("HammingSyndrome", bits), impl.HammingSyndrome(bits), nearest[bits].place)
	}
	for bits, want := range map[string]int{"0000000": 0, "1111111": 0, "0110011": 0, "0110111": 5, "1000000": 1, "0100000": 2, "0010000": 3, "0001000": 4, "0000100": 5, "0000010": 6, "0000001": 7, "1100000": 3, "0000011": 1, "1000001": 6} {
		wantInt(t, short("HammingSyndrome", bits), impl.HammingSyndrome(bits), want)
	}
	for _, bits := range append(someBits(), invalidBits...) {
		if len(bits) != 7 {
			wantInt(t, short("HammingSyndrome", bits), impl.HammingSyndrome(bits), -1)
		}
	}
	for _, text := range []string{"", "0", "011", "011001", "01100110", "01100112", "0110 11", "2110011", "011001x", "000000\x00", "00000\u00e9", "\xff000000", "00000000000000"} {
		wantInt(t, short("HammingSyndrome", text), impl.HammingSyndrome(text), -1)
	}
}

func TestHammingDecode(t *testing.T) {
	for bits := range sequencesOf(7) {
		near := nearest[bits]
		wantDecoded(t, bits, near.data, min(near.place, 1))
	}
	for _, bits := range someBits() {
		if len(bits)%7 != 0 {
			wantNoDecoded(t, bits)
			continue
		}
		want, count := corrected(bits)
		wantDecoded(t, bits, want, count)
	}
	for length := range 602 {
		bits := mixed(length, 3)
		if length%7 == 0 {
			want, count := corrected(bits)
			wantDecoded(t, bits, want, count)
		} else {
			wantNoDecoded(t, bits)
		}
	}
	wantDecoded(t, "", "", 0)
	wantDecoded(t, "0110111", "1011", 1)
	wantDecoded(t, "0110011"+"0000000"+"1111111", "1011"+"0000"+"1111", 0)
	wantDecoded(t, "1110011"+"0000000"+"1111110", "1011"+"0000"+"1111", 2)
	// Two errors in one block lead to a third one.
	wantDecoded(t, "1010011", "0011", 1)
	wantDecoded(t, "1100000", "1000", 1)
	wantDecoded(t, "0000011", "0011", 1)
	wantDecoded(t, "0110000"+"0110011", "1000"+"1011", 1)
	for _, bits := range append([]string{"011", "011001", "01100110", "01100112", "011001x", "0110011011001"}, invalidBits...) {
		wantNoDecoded(t, bits)
	}
	wantNoDecoded(t, strings.Repeat("0110011", 86))
	wantNoDecoded(t, strings.Repeat("0110011", 84)+"011001?")
}

// TestChangedBitOfBlockIsCorrected is the second part of promise 6, for each block and each place, and for one error in each of many blocks.
func TestChangedBitOfBlockIsCorrected(t *testing.T) {
	for data := range sequencesOf(4) {
		sent, _ := impl.HammingEncode(data)
		wantInt(t, "HammingSyndrome of "+sent, impl.HammingSyndrome(sent), 0)
		wantDecoded(t, sent, data, 0)
		for place := 1; place <= 7; place++ {
			wrong := flipped(sent, place-1)
			wantInt(t, "HammingSyndrome of "+wrong, impl.HammingSyndrome(wrong), place)
			wantDecoded(t, wrong, data, 1)
			for other := 1; other < place; other++ {
				// Two errors are taken for one in another place.
				twice := flipped(wrong, other-1)
				wantInt(t, "HammingSyndrome of "+twice, impl.HammingSyndrome(twice), place^other)
				if got, count, ok := impl.HammingDecode(twice); got == data || count != 1 || !ok {
					t.Errorf("HammingDecode(%s) = %q, %d, %v", twice, got, count, ok)
				}
			}
		}
	}
	random := rand.New(rand.NewPCG(6, 8))
	for range 1000 {
		data := randomBits(random, 4*random.IntN(86))
		sent, ok := impl.HammingEncode(data)
		wantBits(t, short("HammingEncode", data), sent, ok, blocks(data))
		errors := 0
		for i := 0; i < len(sent); i += 7 {
			if random.IntN(3) > 0 {
				sent = flipped(sent, i+random.IntN(7))
				errors++
			}
		}
		wantDecoded(t, sent, data, errors)
	}
}

func TestInterleave(t *testing.T) {
	for _, bits := range someBits() {
		for rows := 1; rows <= 40; rows++ {
			if len(bits)%rows != 0 {
				wantNoPair(t, "InterleaveBits", impl.InterleaveBits, impl.DeinterleaveBits, bits, rows)
				continue
			}
			got, ok := impl.InterleaveBits(bits, rows)
			wantBits(t, short("InterleaveBits", rows, bits), got, ok, interleaved(bits, rows))
			back, ok := impl.DeinterleaveBits(got, rows)
			wantBits(t, short("DeinterleaveBits of InterleaveBits", rows, bits), back, ok, bits)
			got, ok = impl.DeinterleaveBits(bits, rows)
			wantBits(t, short("DeinterleaveBits", rows, bits), got, ok, deinterleaved(bits, rows))
		}
	}
	for _, c := range []struct {
		bits string
		rows int
		want string
	}{
		{"", 1, ""}, {"", 40, ""}, {"0", 1, "0"}, {"000111", 1, "000111"}, {"000111", 2, "010101"}, {"001101", 2, "010011"}, {"001101", 3, "010011"}, {"110100", 3, "100110"}, {"011010", 6, "011010"}, {"00001111", 4, "00110011"},
		{mixed(40, 3), 40, mixed(40, 3)}, {strings.Repeat("1", 15) + strings.Repeat("0", 585), 40, strings.Repeat("1"+strings.Repeat("0", 39), 15)},
	} {
		got, ok := impl.InterleaveBits(c.bits, c.rows)
		wantBits(t, short("InterleaveBits", c.rows, c.bits), got, ok, c.want)
		got, ok = impl.DeinterleaveBits(c.want, c.rows)
		wantBits(t, short("DeinterleaveBits", c.rows, c.want), got, ok, c.bits)
	}
}

func TestNoInterleave(t *testing.T) {
	for _, rows := range noRows {
		for _, bits := range []string{"", "0", "01", mixed(40, 1), mixed(41, 1), mixed(42, 2), mixed(80, 4), strings.Repeat("0", 600), strings.Repeat("1", 574)} {
			wantNoPair(t, "InterleaveBits", impl.InterleaveBits, impl.DeinterleaveBits, bits, rows)
		}
	}
	for _, bits := range invalidBits {
		for _, rows := range []int{-1, 0, 1, 2, 3, 40, 41} {
			wantNoPair(t, "InterleaveBits", impl.InterleaveBits, impl.DeinterleaveBits, bits, rows)
		}
	}
}

func TestScrambleBits(t *testing.T) {
	for _, r := range someRegisters() {
		for _, bits := range someBits() {
			got, ok := impl.ScrambleBits(bits, r)
			wantBits(t, short("ScrambleBits", r, bits), got, ok, scrambled(bits, r))
			back, ok := impl.ScrambleBits(got, r)
			wantBits(t, short("ScrambleBits twice", r, bits), back, ok, bits)
		}
		for _, bits := range invalidBits {
			got, ok := impl.ScrambleBits(bits, r)
			wantNoBits(t, short("ScrambleBits", r, bits), got, ok)
		}
	}
	for _, r := range invalidRegisters {
		for _, bits := range []string{"", "0", "1111", strings.Repeat("0", 600)} {
			got, ok := impl.ScrambleBits(bits, r)
			wantNoBits(t, short("ScrambleBits", r, bits), got, ok)
		}
	}
	three := impl.Register{Size: 3, Taps: 3, State: 1}
	for _, c := range []struct {
		bits string
		r    impl.Register
		want string
	}{
		{"1111", three, "0110"}, {"", three, ""}, {"0", three, "1"}, {"1", three, "0"}, {"00000000000000", three, "10010111001011"}, {"1001011", three, "0000000"},
		{"0110", impl.Register{Size: 3, Taps: 3}, "0110"}, {strings.Repeat("01", 300), impl.Register{Size: 8, Taps: 255}, strings.Repeat("01", 300)}, {strings.Repeat("1", 600), three, changed(modelOf(three).bits(600))},
	} {
		got, ok := impl.ScrambleBits(c.bits, c.r)
		wantBits(t, short("ScrambleBits", c.r, c.bits), got, ok, c.want)
	}
}

func TestDiffEncodeAndDecode(t *testing.T) {
	for _, bits := range someBits() {
		want := ""
		for i := range len(bits) + 1 {
			want += fmt.Sprint(strings.Count(bits[:i], "1") % 2)
		}
		got, ok := impl.DiffEncode(bits)
		if len(bits) == 600 {
			wantNoBits(t, short("DiffEncode", bits), got, ok)
		} else {
			wantBits(t, short("DiffEncode", bits), got, ok, want)
			for _, sent := range []string{got, changed(got)} {
				back, ok := impl.DiffDecode(sent)
				wantBits(t, short("DiffDecode of DiffEncode", bits), back, ok, bits)
			}
		}
		if bits == "" {
			continue
		}
		got, ok = impl.DiffDecode(bits)
		wantBits(t, short("DiffDecode", bits), got, ok, sumOf(bits[1:], bits[:len(bits)-1]))
	}
	for bits, want := range map[string]string{"": "0", "0": "00", "1": "01", "11": "010", "1101": "01001", strings.Repeat("0", 599): strings.Repeat("0", 600), strings.Repeat("1", 599): strings.Repeat("01", 300)} {
		got, ok := impl.DiffEncode(bits)
		wantBits(t, short("DiffEncode", bits), got, ok, want)
	}
	for bits, want := range map[string]string{"0": "", "1": "", "00": "0", "10": "1", "01001": "1101", "10110": "1101", strings.Repeat("01", 300): strings.Repeat("1", 599)} {
		got, ok := impl.DiffDecode(bits)
		wantBits(t, short("DiffDecode", bits), got, ok, want)
	}
	for _, bits := range invalidBits {
		got, ok := impl.DiffEncode(bits)
		wantNoBits(t, short("DiffEncode", bits), got, ok)
		got, ok = impl.DiffDecode(bits)
		wantNoBits(t, short("DiffDecode", bits), got, ok)
	}
	got, ok := impl.DiffEncode(strings.Repeat("0", 600))
	wantNoBits(t, "DiffEncode of 600 bits", got, ok)
	got, ok = impl.DiffDecode("")
	wantNoBits(t, "DiffDecode of no bits", got, ok)
}

func TestProtectPayload(t *testing.T) {
	for i, payload := range somePayloads() {
		for rows := 1; rows <= 40; rows++ {
			r := someRegisters()[(i+rows)%len(someRegisters())]
			call := short("", rows, r, payload)
			got, ok := impl.ProtectPayload(payload, rows, r)
			wantBits(t, "ProtectPayload"+call, got, ok, protected(payload, rows, r))
			back, ok := impl.OpenPayload(got, rows, r)
			wantBits(t, "OpenPayload"+call, back, ok, payload)
		}
	}
	// The numbers of bits: a frame of 24, 28 or 123 bits is filled up to a multiple of 4, 12 and so on.
	r := impl.Register{Size: 3, Taps: 3, State: 1}
	for _, c := range []struct{ length, rows, want int }{{0, 1, 42}, {1, 1, 42}, {1, 2, 42}, {1, 3, 42}, {1, 4, 56}, {1, 6, 42}, {1, 7, 49}, {1, 40, 280}, {2, 1, 49}, {5, 7, 49}, {6, 7, 98}, {100, 1, 217}, {100, 31, 217}, {100, 40, 280}, {97, 30, 210}, {98, 30, 420}, {100, 30, 420}, {100, 29, 406}} {
		got, ok := impl.ProtectPayload(strings.Repeat("1", c.length), c.rows, r)
		if len(got) != c.want || !ok {
			t.Errorf("ProtectPayload of %d bits with %d rows has %d bits, %v, want %d", c.length, c.rows, len(got), ok, c.want)
		}
	}
	// One block in each row: the frame of 24 bits, scrambled by nothing.
	still := impl.Register{Size: 2, Taps: 1}
	got, ok := impl.ProtectPayload("1", 6, still)
	wantBits(t, "ProtectPayload", got, ok, interleaved("0010110"+"1110000"+"0000000"+"1000011"+"0000000"+"0011001", 6))
	got, ok = impl.ProtectPayload("1", 1, still)
	wantBits(t, "ProtectPayload in one row", got, ok, "0010110"+"1110000"+"0000000"+"1000011"+"0000000"+"0011001")
}

// wantNoProtection reports results of ProtectPayload and OpenPayload that are not empty and false.
func wantNoProtection(t *testing.T, payload, bits string, rows int, r impl.Register) {
	t.Helper()
	got, ok := impl.ProtectPayload(payload, rows, r)
	wantNoBits(t, short("ProtectPayload", rows, r, payload), got, ok)
	got, ok = impl.OpenPayload(bits, rows, r)
	wantNoBits(t, short("OpenPayload", rows, r, bits), got, ok)
}

func TestNoProtection(t *testing.T) {
	r := impl.Register{Size: 3, Taps: 3, State: 1}
	good := protected("1", 2, r)
	for _, rows := range noRows {
		for _, payload := range []string{"", "1", strings.Repeat("0", 100)} {
			wantNoProtection(t, payload, good, rows, r)
			wantNoProtection(t, payload, protected(payload, 1, r), rows, r)
			wantNoProtection(t, payload, "", rows, r)
		}
	}
	for _, other := range invalidRegisters {
		for _, rows := range []int{0, 1, 2, 40, 41} {
			wantNoProtection(t, "1", good, rows, other)
			wantNoProtection(t, "", protected("", 40, r), rows, other)
		}
	}
	for _, payload := range noPayloads() {
		for _, rows := range []int{-1, 0, 1, 30, 40, 41} {
			for _, register := range []impl.Register{r, {Size: 2, Taps: 1}, {}} {
				got, ok := impl.ProtectPayload(payload, rows, register)
				wantNoBits(t, short("ProtectPayload", rows, register, payload), got, ok)
			}
		}
	}
	for _, bits := range invalidBits {
		for _, rows := range []int{-1, 0, 1, 2, 40, 41} {
			for _, text := range []string{bits, good + bits, bits + good} {
				got, ok := impl.OpenPayload(text, rows, r)
				wantNoBits(t, short("OpenPayload", rows, text), got, ok)
			}
		}
	}
	// No number of bits but a multiple of the rows and of 7.
	for length := range len(good) {
		for _, rows := range []int{1, 2, 3, 6, 7} {
			got, ok := impl.OpenPayload(good[:length], rows, r)
			wantNoBits(t, callOf("OpenPayload", length, rows), got, ok)
		}
	}
	for _, rows := range []int{1, 3, 4, 5, 6, 7, 14, 21} {
		got, ok := impl.OpenPayload(good, rows, r)
		wantNoBits(t, callOf("OpenPayload with other rows", rows), got, ok)
	}
	for _, other := range []impl.Register{{Size: 3, Taps: 3, State: 2}, {Size: 3, Taps: 5, State: 1}, {Size: 3, Taps: 3}} {
		got, ok := impl.OpenPayload(good, 2, other)
		wantNoBits(t, short("OpenPayload with another register", other), got, ok)
	}
}

// TestOpenPayload holds bits that are protected in any way, with errors at any places, against the model.
func TestOpenPayload(t *testing.T) {
	random := rand.New(rand.NewPCG(6, 9))
	registers := someRegisters()
	read, lost := 0, 0
	for range 6000 {
		rows := 1 + random.IntN(40)
		r := registers[random.IntN(len(registers))]
		payload := randomBits(random, random.IntN(101))
		bits := protected(payload, rows, r)
		for range random.IntN(5) * random.IntN(5) {
			bits = flipped(bits, random.IntN(len(bits)))
		}
		want, is := opened(bits, rows, r)
		got, ok := impl.OpenPayload(bits, rows, r)
		if got != want || ok != is {
			t.Errorf("%s = %q, %v, want %q, %v", short("OpenPayload", rows, r, bits), got, ok, want, is)
		}
		if ok {
			read++
		} else {
			lost++
		}
	}
	if read < 1000 || lost < 1000 {
		t.Errorf("%d payloads were read, and %d lost: the test shows little", read, lost)
	}
}

// TestBitsBehindTheFrame: what fills up the last row, and all that follows it, may be any bits.
func TestBitsBehindTheFrame(t *testing.T) {
	random := rand.New(rand.NewPCG(6, 10))
	for _, payload := range somePayloads() {
		for rows := 1; rows <= 40; rows++ {
			r := someRegisters()[random.IntN(8)]
			whole := framed(payload)
			for length := (len(whole) + 3) / 4 * 4; length <= 340; length += 4 {
				if length/4*7%rows != 0 || random.IntN(6) > 0 {
					continue
				}
				bits := secured(whole+randomBits(random, length-len(whole)), rows, r)
				got, ok := impl.OpenPayload(bits, rows, r)
				wantBits(t, short("OpenPayload", length, rows, r, payload), got, ok, payload)
			}
		}
	}
	// A frame that is not at the very beginning is not read.
	r := impl.Register{Size: 2, Taps: 2, State: 3}
	for _, data := range []string{"0" + framed("101101") + "00", "1" + framed("1") + "111", flag + framed("1"), framed("1")[:23] + "0" + framed("0")} {
		got, ok := impl.OpenPayload(secured(data, 1, r), 1, r)
		wantNoBits(t, short("OpenPayload", data), got, ok)
	}
	// What is behind the first frame may be another one, too.
	got, ok := impl.OpenPayload(secured(framed("1")+framed("0"), 4, r), 4, r)
	wantBits(t, "OpenPayload of two frames", got, ok, "1")
}

// burst returns indexes from one on, the first and the last one of a burst and some or all between them.
func burst(random *rand.Rand, from, length, density int) []int {
	list := []int{from}
	for i := 1; i < length-1; i++ {
		if random.IntN(4) < density {
			list = append(list, from+i)
		}
	}
	if length > 1 {
		list = append(list, from+length-1)
	}
	return list
}

// TestBurstsDoNoHarm is the third part of promise 6: a burst of errors that is not longer than the rows hits each row at most once, wherever it begins.
func TestBurstsDoNoHarm(t *testing.T) {
	random := rand.New(rand.NewPCG(6, 11))
	for rows := 1; rows <= 40; rows++ {
		for _, count := range []int{0, 1, random.IntN(100), 98, 100} {
			payload, r := randomBits(random, count), someRegisters()[random.IntN(8)]
			sent, _ := impl.ProtectPayload(payload, rows, r)
			for length := range rows + 1 {
				for range 20 {
					from := random.IntN(len(sent) - length + 1)
					wantOpened(t, sent, nil, rows, r, payload)
					if length > 0 {
						wantOpened(t, sent, burst(random, from, length, random.IntN(5)), rows, r, payload)
					}
				}
			}
			// The longest bursts, from each place on.
			for from := range len(sent) - rows + 1 {
				wantOpened(t, sent, burst(random, from, rows, 4), rows, r, payload)
			}
		}
	}
}

// wantOpened reports protected bits with errors from which the payload is not read.
func wantOpened(t *testing.T, sent string, errors []int, rows int, r impl.Register, payload string) {
	t.Helper()
	got, ok := impl.OpenPayload(flipped(sent, errors...), rows, r)
	if got != payload || !ok {
		t.Errorf("%s = %q, %v, want %q", short("OpenPayload", rows, r, errors, sent), got, ok, payload)
	}
}

// TestLongerBurstsDoHarm: a burst that is one bit longer than the rows hits one of them twice. It does harm if both errors are in one block of the frame, and none if they are in different blocks.
func TestLongerBurstsDoHarm(t *testing.T) {
	random := rand.New(rand.NewPCG(6, 12))
	for rows := 1; rows <= 40; rows++ {
		payload, r := randomBits(random, 100), someRegisters()[random.IntN(8)]
		sent, _ := impl.ProtectPayload(payload, rows, r)
		width := len(sent) / rows
		harmed := 0
		for from := range len(sent) - rows {
			errors := burst(random, from, rows+1, 4)
			bits := flipped(sent, errors...)
			want, is := opened(bits, rows, r)
			got, ok := impl.OpenPayload(bits, rows, r)
			if got != want || ok != is {
				t.Errorf("%s = %q, %v, want %q, %v", short("OpenPayload", rows, r, errors), got, ok, want, is)
			}
			column, row := from/rows, from%rows
			first := (row*width + column) / 7 * 4 // the index of the data of the block in the frame
			switch {
			case column%7 == 6:
				wantOpened(t, sent, errors, rows, r, payload)
			case first+4 <= len(framed(payload)) && ok && got == payload:
				t.Errorf("%s does no harm", short("OpenPayload", rows, r, errors))
			case !ok || got != payload:
				harmed++
			}
		}
		if harmed == 0 {
			t.Errorf("with %d rows, no longer burst does harm", rows)
		}
	}
}

// TestProtectionResultsAreNew: also where a result is equal to the argument, it is not the same memory.
func TestProtectionResultsAreNew(t *testing.T) {
	bits, still := blocks(framed("0110")+"0"), impl.Register{Size: 2, Taps: 1}
	calls := map[string]func() (string, bool){
		"RepeatBits":       func() (string, bool) { return impl.RepeatBits(bits, 1) },
		"MajorityBits":     func() (string, bool) { return impl.MajorityBits(bits, 1) },
		"HammingEncode":    func() (string, bool) { return impl.HammingEncode(strings.Repeat("0", 40)) },
		"InterleaveBits":   func() (string, bool) { return impl.InterleaveBits(bits, 1) },
		"DeinterleaveBits": func() (string, bool) { return impl.DeinterleaveBits(bits, 1) },
		"ScrambleBits":     func() (string, bool) { return impl.ScrambleBits(bits, still) },
		"DiffEncode":       func() (string, bool) { return impl.DiffEncode(bits) },
		"DiffDecode":       func() (string, bool) { return impl.DiffDecode(bits) },
		"ProtectPayload":   func() (string, bool) { return impl.ProtectPayload(bits[:20], 1, still) },
		"OpenPayload":      func() (string, bool) { return impl.OpenPayload(bits, 1, still) },
		"CrcOf":            func() (string, bool) { return impl.CrcOf(bits) },
		"FrameOf":          func() (string, bool) { return impl.FrameOf(bits[:20]) },
	}
	for name, call := range calls {
		first, ok := call()
		second, _ := call()
		if !ok || first != second || overlap(first, bits) || overlap(first, second) {
			t.Errorf("%s = %q, %v, and then %q, or they share memory", name, first, ok, second)
		}
	}
}

// TestSteps takes a payload through all steps one by one, there and back.
func TestSteps(t *testing.T) {
	r := impl.Register{Size: 5, Taps: 5, State: 1}
	whole, _ := impl.FrameOf("10110")
	encoded, _ := impl.HammingEncode(whole + strings.Repeat("0", 36-len(whole)))
	written, _ := impl.InterleaveBits(encoded, 3)
	sent, ok := impl.ScrambleBits(written, r)
	got, _ := impl.ProtectPayload("10110", 3, r)
	wantBits(t, "the steps of ProtectPayload", sent, ok, got)
	errors := []int{7, 8, 9}
	received, _ := impl.ScrambleBits(flipped(sent, errors...), r)
	rowwise, _ := impl.DeinterleaveBits(received, 3)
	data, count, ok := impl.HammingDecode(rowwise)
	if count != len(errors) || !ok {
		t.Errorf("HammingDecode changes %d bits, %v", count, ok)
	}
	payload, end, ok := impl.ParseFrame(data, 0)
	wantFrame(t, "ParseFrame", payload, end, ok, "10110", len(whole))
	if list := impl.AllFrames(data); !slices.Equal(list, []string{"10110"}) {
		t.Errorf("AllFrames = %q", list)
	}
}
