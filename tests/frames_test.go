package tests

import (
	"fmt"
	"math"
	"math/rand/v2"
	"slices"
	"strings"
	"testing"
	"unsafe"

	"loop.example/spreadspectrum/impl"
)

// wantFrame reports a result that is not the wanted payload, the index behind its frame, and true.
func wantFrame(t *testing.T, call string, got string, end int, ok bool, want string, wantEnd int) {
	t.Helper()
	if got != want || end != wantEnd || !ok {
		t.Errorf("%s = %q, %d, %v, want %q, %d, true", call, got, end, ok, want, wantEnd)
	}
}

// wantNoFrame reports a result of ParseFrame that is not the empty string, 0 and false.
func wantNoFrame(t *testing.T, bits string, at int) {
	t.Helper()
	got, end, ok := impl.ParseFrame(bits, at)
	if got != "" || end != 0 || ok {
		t.Errorf("%s = %q, %d, %v, want none", short("ParseFrame", at, bits), got, end, ok)
	}
}

// wantPayloads reports other payloads than the wanted ones.
func wantPayloads(t *testing.T, bits string, want ...string) {
	t.Helper()
	if got := impl.AllFrames(bits); !slices.Equal(got, want) {
		t.Errorf("%s = %q, want %q", short("AllFrames", bits), got, want)
	}
}

func TestCrcOf(t *testing.T) {
	for _, bits := range someBits() {
		got, ok := impl.CrcOf(bits)
		wantBits(t, short("CrcOf", bits), got, ok, crc(bits))
	}
	for bits, want := range map[string]string{
		"": "00000000", "0": "00000000", "1": "00000111", "10": "00001110", "11": "00001001", "00000011": "00001001", strings.Repeat("0", 600): "00000000",
		// The sixth bit after a one brings it to the highest digit, and the seventh one beyond that.
		"100000": "11100000", "1000000": "11000111", "10000000": "10001001", "1100000": "00100111",
		// The bytes of the text 123456789, whose check with this polynomial is well known.
		"001100010011001000110011001101000011010100110110001101110011100000111001": "11110100",
	} {
		got, ok := impl.CrcOf(bits)
		wantBits(t, short("CrcOf", bits), got, ok, want)
	}
	for _, bits := range invalidBits {
		got, ok := impl.CrcOf(bits)
		wantNoBits(t, short("CrcOf", bits), got, ok)
	}
}

// TestCrcOfItself: the check bits of bits that their own check bits follow are all 0.
func TestCrcOfItself(t *testing.T) {
	for _, bits := range someBits() {
		if check, _ := impl.CrcOf(bits); len(bits)+len(check) <= 600 {
			got, ok := impl.CrcOf(bits + check)
			wantBits(t, short("CrcOf with its check bits", bits), got, ok, "00000000")
		}
	}
}

func TestFrameOf(t *testing.T) {
	for _, payload := range somePayloads() {
		got, ok := impl.FrameOf(payload)
		wantBits(t, short("FrameOf", payload), got, ok, framed(payload))
	}
	for payload, want := range map[string]string{
		"":                       "11101000" + "0000000" + "00000000",
		"0":                      "11101000" + "00000010" + "00001110",
		"1":                      "11101000" + "00000011" + "00001001",
		strings.Repeat("0", 64):  "11101000" + "1000000" + strings.Repeat("0", 64) + crc("1000000"+strings.Repeat("0", 64)),
		strings.Repeat("1", 100): "11101000" + "1100100" + strings.Repeat("1", 100) + crc("1100100"+strings.Repeat("1", 100)),
	} {
		got, ok := impl.FrameOf(payload)
		wantBits(t, short("FrameOf", payload), got, ok, want)
	}
	for _, payload := range noPayloads() {
		got, ok := impl.FrameOf(payload)
		wantNoBits(t, short("FrameOf", payload), got, ok)
	}
}

// indexesOf returns indexes within bits, at both their ends, and past them.
func indexesOf(bits string) []int {
	list := slices.Clone(pastIndexes)
	for i := range len(bits) + 3 {
		list = append(list, i)
	}
	return list
}

func TestParseFrame(t *testing.T) {
	random := rand.New(rand.NewPCG(6, 4))
	for _, payload := range somePayloads() {
		whole := framed(payload)
		for _, before := range []int{0, 1, 9, 200} {
			for _, behind := range []int{0, 1, 30, 600 - before - len(whole)} {
				bits := randomBits(random, before) + whole + randomBits(random, behind)
				got, end, ok := impl.ParseFrame(bits, before)
				wantFrame(t, short("ParseFrame", before, bits), got, end, ok, payload, before+len(whole))
			}
		}
	}
	for _, bits := range append(streams(200), "", "1", flag, framed(""), framed("1")) {
		for _, at := range indexesOf(bits) {
			want, wantEnd, is := parsed(bits, at)
			if !is {
				wantNoFrame(t, bits, at)
				continue
			}
			got, end, ok := impl.ParseFrame(bits, at)
			wantFrame(t, short("ParseFrame", at, bits), got, end, ok, want, wantEnd)
		}
	}
}

func TestNoParseFrame(t *testing.T) {
	for _, payload := range []string{"", "1", "0110", strings.Repeat("1", 63), strings.Repeat("1", 64), mixed(100, 2)} {
		whole := framed(payload)
		for i := range len(whole) {
			wantNoFrame(t, whole[:i], 0)
			wantNoFrame(t, "1"+whole[:i], 1)
			wantNoFrame(t, whole[i+1:], 0)
			// One changed bit of the flag, of the number, of the payload, or of the check bits.
			wantNoFrame(t, flipped(whole, i), 0)
			wantNoFrame(t, "00"+flipped(whole, i), 2)
		}
		for _, at := range append([]int{1, 8, 15, len(whole) - 1, len(whole), len(whole) + 1, -len(whole)}, pastIndexes...) {
			wantNoFrame(t, whole, at)
		}
		for _, text := range []string{whole + "2", "2" + whole, whole[:20] + "x" + whole[21:], whole + strings.Repeat("0", 601-len(whole)), strings.Repeat("0", 601-len(whole)) + whole} {
			wantNoFrame(t, text, max(strings.Index(text, whole), 0))
		}
	}
	for _, bits := range invalidBits {
		for _, at := range []int{-1, 0, len(bits), len(bits) - 1} {
			wantNoFrame(t, bits, at)
		}
	}
}

// TestTooLongFrames: what would be a frame, if payloads could be longer, is none.
func TestTooLongFrames(t *testing.T) {
	for length := range 128 {
		payload := strings.Repeat("1", length)
		whole := framed(payload)
		if length <= 100 {
			got, end, ok := impl.ParseFrame(whole+"1", 0)
			wantFrame(t, callOf("ParseFrame", length), got, end, ok, payload, 23+length)
			continue
		}
		wantNoFrame(t, whole, 0)
		wantNoFrame(t, whole+strings.Repeat("0", 300), 0)
		wantInt(t, callOf("FindFrame", length), impl.FindFrame(whole, 0), -1)
		wantInt(t, callOf("FindFrame before another one", length), impl.FindFrame(whole+framed("1"), 0), len(whole))
		wantPayloads(t, whole+framed("1")+"0", "1")
	}
}

func TestFindFrame(t *testing.T) {
	for _, bits := range append(streams(1000), someBits()...) {
		for _, from := range append([]int{0, 1, len(bits) / 2, len(bits) - 1, len(bits), len(bits) + 1}, pastIndexes...) {
			wantInt(t, short("FindFrame", from, bits), impl.FindFrame(bits, from), found(bits, from))
		}
	}
	for _, bits := range streams(30) {
		for from := range len(bits) + 2 {
			wantInt(t, short("FindFrame", from, bits), impl.FindFrame(bits, from), found(bits, from))
		}
	}
	for _, bits := range invalidBits {
		for _, text := range []string{bits, bits + framed("1"), framed("1") + bits} {
			for _, from := range []int{-1, 0, 1, len(bits)} {
				wantInt(t, short("FindFrame", from, text), impl.FindFrame(text, from), -1)
			}
		}
	}
}

func TestFindFrameByHand(t *testing.T) {
	one, empty := framed("1"), framed("")
	for _, c := range []struct {
		bits       string
		from, want int
	}{
		{"", 0, -1}, {one, 0, 0}, {one, 1, -1}, {one, 23, -1}, {one, 24, -1}, {one, 25, -1}, {one, -1, -1}, {one, math.MinInt, -1}, {one, math.MaxInt, -1}, {"00" + one, 0, 2}, {"00" + one, 1, 2}, {"00" + one, 2, 2}, {"00" + one, 3, -1},
		// At the very end, and one bit short of it.
		{strings.Repeat("0", 576) + one, 0, 576}, {strings.Repeat("1", 576) + one, 576, 576}, {strings.Repeat("0", 577) + one[:23], 0, -1}, {strings.Repeat("0", 577) + one, 0, -1}, {one[:23], 0, -1}, {one[1:], 0, -1},
		// Flags that begin no frame.
		{flag, 0, -1}, {flag + flag, 0, -1}, {flag + one, 0, 8}, {flag + flag + flag + one, 0, 24}, {flag + "0" + one, 1, 9}, {flag + "1111111" + one, 0, 15}, {flag + "0001111" + one, 0, 15}, {flag + "0000000" + "00000001" + one, 0, 23}, {flag + "0000000" + empty, 0, 15},
		{one + flag, 0, 0}, {one + flag, 1, -1}, {one + flag + one, 1, 32}, {one + flag + one, 32, 32},
		// Flags that begin within what could be another one.
		{"1" + one, 0, 1}, {"11" + one, 0, 2}, {"111" + one, 0, 3}, {"1110" + one, 0, 4}, {"11101" + one, 0, 5}, {"111010" + one, 0, 6}, {"1110100" + one, 0, 7}, {"1111111" + one, 0, 7}, {"1110111010" + one, 0, 10}, {"111" + flag + "11" + one, 0, 13},
		// A frame within a lost one.
		{flag + "0101000" + "1" + one + strings.Repeat("0", 60), 0, 16}, {flipped(framed("01"+one), 0), 0, 17}, {flipped(framed("01"+one), 46), 0, 17}, {framed("01" + one), 0, 0}, {framed("01" + one), 1, 17}, {framed("01" + one), 17, 17}, {framed("01" + one), 18, -1}, {framed(one)[:40], 0, 15},
	} {
		wantInt(t, short("FindFrame", c.from, c.bits), impl.FindFrame(c.bits, c.from), c.want)
	}
}

func TestAllFrames(t *testing.T) {
	for _, bits := range append(streams(1500), someBits()...) {
		wantPayloads(t, bits, allFrames(bits)...)
	}
	for _, bits := range invalidBits {
		wantPayloads(t, bits)
		wantPayloads(t, framed("1")+bits+framed("1"))
	}
	one, empty, full := framed("1"), framed(""), framed(mixed(100, 3))
	wantPayloads(t, "")
	wantPayloads(t, flag+"01")
	wantPayloads(t, one, "1")
	wantPayloads(t, empty, "")
	wantPayloads(t, empty+empty, "", "")
	wantPayloads(t, one+one+one, "1", "1", "1")
	wantPayloads(t, one+"0"+empty, "1", "")
	wantPayloads(t, "1"+one+"11"+empty+"111"+one+"1110100", "1", "", "1")
	wantPayloads(t, strings.Repeat(full, 4)+"0", mixed(100, 3), mixed(100, 3), mixed(100, 3), mixed(100, 3))
	wantPayloads(t, strings.Repeat(empty, 26), make([]string, 26)...)
	wantPayloads(t, strings.Repeat(one, 25), strings.Split(strings.Repeat("1", 25), "")...)
	// What is within a frame is not a frame of its own, but what is within a lost one is.
	wantPayloads(t, framed("01"+one)+one, "01"+one, "1")
	wantPayloads(t, flipped(framed("01"+one), 0)+empty, "1", "")
	wantPayloads(t, framed(flag+framed(empty))+empty, flag+framed(empty), "")
	wantPayloads(t, flipped(framed(flag+framed(empty)), 9)+empty, empty, "")
	wantPayloads(t, one+flipped(one, 20)+one, "1", "1")
	wantPayloads(t, one[:23]+one, "1")
}

func TestFixPolarity(t *testing.T) {
	for _, bits := range append(streams(700), someBits()...) {
		for _, text := range []string{bits, changed(bits)} {
			got, ok := impl.FixPolarity(text)
			want, is := polarized(text)
			if got != want || ok != is {
				t.Errorf("%s = %q, %v, want %q, %v", short("FixPolarity", text), got, ok, want, is)
			}
		}
	}
	one, empty := framed("1"), framed("")
	for bits, want := range map[string]string{
		one: one, changed(one): one, empty: empty, changed(empty): empty, "0" + one + "1": "0" + one + "1", "1" + changed(one) + "0": "0" + one + "1", framed(changed(one)): framed(changed(one)), framed(one): framed(one),
		// Where there are frames in both, the bits stay as they are, in whatever order the frames stand.
		one + changed(empty): one + changed(empty), changed(empty) + one: changed(empty) + one,
		strings.Repeat("0", 576) + changed(one): strings.Repeat("1", 576) + one, strings.Repeat("0", 576) + one: strings.Repeat("0", 576) + one,
	} {
		got, ok := impl.FixPolarity(bits)
		wantBits(t, short("FixPolarity", bits), got, ok, want)
	}
	for _, bits := range append([]string{"", "0", "1", flag, changed(flag), one[:23], changed(one[:23]), flipped(one, 23), strings.Repeat("0", 577) + one, strings.Repeat("1", 577) + changed(one), one + "2", changed(one) + "2"}, invalidBits...) {
		got, ok := impl.FixPolarity(bits)
		wantNoBits(t, short("FixPolarity", bits), got, ok)
	}
}

// TestFramesAreFoundAndRead is the first part of promise 6: wherever a frame stands, it is found and read, unless what stands before it happens to be a frame, too.
func TestFramesAreFoundAndRead(t *testing.T) {
	random := rand.New(rand.NewPCG(6, 5))
	for _, payload := range somePayloads() {
		whole, ok := impl.FrameOf(payload)
		wantBits(t, short("FrameOf", payload), whole, ok, framed(payload))
		for range 20 {
			before := randomBits(random, random.IntN(601-len(whole)))
			bits := before + whole + randomBits(random, random.IntN(601-len(whole)-len(before)))
			if found(bits, 0) < len(before) {
				continue
			}
			call := short("", payload, bits)
			wantInt(t, "FindFrame"+call, impl.FindFrame(bits, 0), len(before))
			wantInt(t, "FindFrame"+call, impl.FindFrame(bits, len(before)), len(before))
			got, end, ok := impl.ParseFrame(bits, len(before))
			wantFrame(t, "ParseFrame"+call, got, end, ok, payload, len(before)+len(whole))
			if list := impl.AllFrames(bits); len(list) == 0 || list[0] != payload {
				t.Errorf("AllFrames%s = %q", call, list)
			}
			fixed, ok := impl.FixPolarity(changed(bits))
			if want, _ := polarized(changed(bits)); fixed != want || !ok {
				t.Errorf("FixPolarity%s = %q, %v", call, fixed, ok)
			}
		}
	}
}

func TestExampleOfFrames(t *testing.T) {
	whole, ok := impl.FrameOf("1")
	wantBits(t, "FrameOf", whole, ok, "11101000"+"00000011"+"00001001")
	check, ok := impl.CrcOf("00000011")
	wantBits(t, "CrcOf", check, ok, "00001001")
	payload, end, ok := impl.ParseFrame(whole, 0)
	wantFrame(t, "ParseFrame", payload, end, ok, "1", 24)
	encoded, ok := impl.HammingEncode("1011")
	wantBits(t, "HammingEncode", encoded, ok, "0110011")
}

// overlap reports whether two texts have a byte of memory in common.
func overlap(a, b string) bool {
	first, second := uintptr(unsafe.Pointer(unsafe.StringData(a))), uintptr(unsafe.Pointer(unsafe.StringData(b)))
	return len(a) > 0 && len(b) > 0 && first < second+uintptr(len(b)) && second < first+uintptr(len(a))
}

// TestFrameResultsAreNew: no result is a part of an argument or of another result, and payloads in a list are not changed with another list.
func TestFrameResultsAreNew(t *testing.T) {
	bits := framed("0110") + "0" + framed("10101") + "111"
	payload, _, _ := impl.ParseFrame(bits, 0)
	fixed, _ := impl.FixPolarity(bits)
	first, second := impl.AllFrames(bits), impl.AllFrames(bits)
	results := slices.Concat([]string{payload, fixed}, first, second)
	for i, a := range results {
		if overlap(a, bits) {
			t.Errorf("the result %q is a part of the argument", a)
		}
		for _, b := range results[i+1:] {
			if overlap(a, b) {
				t.Errorf("the results %q and %q share memory", a, b)
			}
		}
	}
	clear(first[:cap(first)])
	if want := []string{"0110", "10101"}; !slices.Equal(second, want) || !slices.Equal(impl.AllFrames(bits), want) {
		t.Errorf("AllFrames = %q after another list was changed", second)
	}
}

// TestNoByteButBitsIsFramed puts each byte that is no bit into texts that are right otherwise.
func TestNoByteButBitsIsFramed(t *testing.T) {
	whole := framed("0110")
	for b := range 256 {
		if b == '0' || b == '1' {
			continue
		}
		for _, text := range []string{whole + string([]byte{byte(b)}), string([]byte{byte(b)}) + whole} {
			call := fmt.Sprintf("%q", text)
			check, ok := impl.CrcOf(text)
			wantNoBits(t, "CrcOf of "+call, check, ok)
			check, ok = impl.FrameOf(text)
			wantNoBits(t, "FrameOf of "+call, check, ok)
			wantNoFrame(t, text, strings.Index(text, whole))
			wantInt(t, "FindFrame of "+call, impl.FindFrame(text, 0), -1)
			wantPayloads(t, text)
			check, ok = impl.FixPolarity(text)
			wantNoBits(t, "FixPolarity of "+call, check, ok)
		}
	}
}
