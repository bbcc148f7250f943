package tests

import (
	"fmt"
	"math"
	"math/rand/v2"
	"slices"
	"strings"

	"loop.example/spreadspectrum/impl"
)

// flag begins each frame.
const flag = "11101000"

// noRepetitions are numbers of repetitions that there are not.
var noRepetitions = []int{-1, 0, 2, 4, 6, 8, 10, 11, -3, 13, 1<<32 + 1, math.MaxInt, math.MaxInt - 1, math.MinInt, math.MinInt + 1}

// noRows are numbers of rows that there are not.
var noRows = []int{-1, 0, 41, -2, -40, 42, 80, 1 << 32, math.MaxInt, math.MaxInt - 1, math.MinInt, math.MinInt + 1}

// pastIndexes are indexes far past both ends of any bits.
var pastIndexes = []int{-1, -2, -600, 601, 602, 10000, 1 << 32, 1<<63 - 8, 1<<63 - 15, math.MaxInt, math.MaxInt - 1, math.MinInt, math.MinInt + 1}

// flipped returns bits of which those at some indexes are changed.
func flipped(bits string, indexes ...int) string {
	list := []byte(bits)
	for _, i := range indexes {
		list[i] = '0' + '1' - list[i]
	}
	return string(list)
}

// crc returns the check bits of bits as the rest of a long division: the bits, followed by 8 zeros, are divided by 100000111.
func crc(bits string) string {
	rest := []byte(bits + "00000000")
	for i := range len(bits) {
		if rest[i] == '1' {
			copy(rest[i:], sumOf(string(rest[i:i+9]), "100000111"))
		}
	}
	return string(rest[len(bits):])
}

// framed returns the frame of a payload, or what would be one if payloads could be longer.
func framed(payload string) string {
	inner := fmt.Sprintf("%07b", len(payload)) + payload
	return flag + inner + crc(inner)
}

// parsed returns the payload, from the shortest one on, whose frame stands at an index, and the index behind it.
func parsed(bits string, at int) (string, int, bool) {
	if at < 0 || at > len(bits) || !strings.HasPrefix(bits[at:], flag) {
		return "", 0, false
	}
	for n := 0; n <= 100 && at+15+n <= len(bits); n++ {
		payload := bits[at+15 : at+15+n]
		if strings.HasPrefix(bits[at:], framed(payload)) {
			return payload, at + len(framed(payload)), true
		}
	}
	return "", 0, false
}

// found returns the least index, not less than another one, at which there is a frame, and -1 if there is none.
func found(bits string, from int) int {
	if from < 0 {
		return -1
	}
	for at := from; at < len(bits); at++ {
		if _, _, ok := parsed(bits, at); ok {
			return at
		}
	}
	return -1
}

// allFrames returns the payloads of all frames, one behind the end of the other.
func allFrames(bits string) []string {
	at := found(bits, 0)
	if at < 0 {
		return nil
	}
	payload, end, _ := parsed(bits, at)
	return append([]string{payload}, allFrames(bits[end:])...)
}

// polarized returns the bits or the changed ones, whichever have a frame.
func polarized(bits string) (string, bool) {
	switch {
	case found(bits, 0) >= 0:
		return bits, true
	case found(changed(bits), 0) >= 0:
		return changed(bits), true
	}
	return "", false
}

// repeated returns each bit as often.
func repeated(bits string, n int) string {
	var text strings.Builder
	for i := range len(bits) {
		text.WriteString(strings.Repeat(bits[i:i+1], n))
	}
	return text.String()
}

// voted returns, for bits that stand beside each other, what is in the middle when they are sorted.
func voted(bits string, n int) string {
	var text strings.Builder
	for part := range slices.Chunk([]byte(bits), n) {
		part = slices.Sorted(slices.Values(part))
		text.WriteByte(part[n/2])
	}
	return text.String()
}

// block returns the block of 4 bits, with the sums that the document writes out.
func block(data string) string {
	b3, b5, b6, b7 := data[0], data[1], data[2], data[3]
	sum := func(bits ...byte) byte {
		ones := 0
		for _, bit := range bits {
			ones += int(bit - '0')
		}
		return byte('0' + ones%2)
	}
	return string([]byte{sum(b3, b5, b7), sum(b3, b6, b7), b3, sum(b5, b6, b7), b5, b6, b7})
}

// blocks returns the blocks of bits.
func blocks(bits string) string {
	var text strings.Builder
	for i := 0; i < len(bits); i += 4 {
		text.WriteString(block(bits[i : i+4]))
	}
	return text.String()
}

// A correction tells the data of 7 bits, and the place of the wrong one, counted from 1, or 0.
type correction struct {
	data  string
	place int
}

// nearest has all 7 bits, with the data whose block differs from them in at most one place.
var nearest = corrections()

func corrections() map[string]correction {
	table := map[string]correction{}
	for data := range sequencesOf(4) {
		table[block(data)] = correction{data, 0}
		for place := 1; place <= 7; place++ {
			table[flipped(block(data), place-1)] = correction{data, place}
		}
	}
	return table
}

// corrected returns the data of blocks, and how many of these are wrong.
func corrected(bits string) (string, int) {
	var text strings.Builder
	count := 0
	for i := 0; i < len(bits); i += 7 {
		near := nearest[bits[i:i+7]]
		text.WriteString(near.data)
		if near.place > 0 {
			count++
		}
	}
	return text.String(), count
}

// interleaved returns the bits column by column.
func interleaved(bits string, rows int) string {
	var text strings.Builder
	width := len(bits) / rows
	for column := range width {
		for row := range rows {
			text.WriteByte(bits[row*width : (row+1)*width][column])
		}
	}
	return text.String()
}

// deinterleaved puts bits in the places from which interleaved takes them.
func deinterleaved(bits string, rows int) string {
	grid := make([]string, rows)
	for i := range len(bits) {
		grid[i%rows] += bits[i : i+1]
	}
	return strings.Join(grid, "")
}

// scrambled returns the sums of bits and those of a register.
func scrambled(bits string, r impl.Register) string {
	return sumOf(bits, modelOf(r).bits(len(bits)))
}

// protected returns the protected bits of a payload.
func protected(payload string, rows int, r impl.Register) string {
	data := framed(payload)
	for len(data)%(4*rows) != 0 {
		data += "0"
	}
	return secured(data, rows, r)
}

// secured returns data, which are as many as fit, in blocks that are interleaved and scrambled.
func secured(data string, rows int, r impl.Register) string {
	return scrambled(interleaved(blocks(data), rows), r)
}

// opened returns the payload of valid bits that may be protected.
func opened(bits string, rows int, r impl.Register) (string, bool) {
	if len(bits)%rows != 0 || len(bits)%7 != 0 {
		return "", false
	}
	data, _ := corrected(deinterleaved(scrambled(bits, r), rows))
	payload, _, ok := parsed(data, 0)
	return payload, ok
}

// somePayloads returns payloads of all lengths, and some that look like parts of frames.
func somePayloads() []string {
	list := []string{"", "0", "1", "00", "11", flag, flag + "0000000", framed(""), framed("1"), "0" + framed("10110"), strings.Repeat("0", 100), strings.Repeat("1", 100), strings.Repeat("01", 50), flag + strings.Repeat(flag, 11)}
	random := rand.New(rand.NewPCG(6, 1))
	for length := range 101 {
		list = append(list, randomBits(random, length))
	}
	return list
}

// noPayloads are too long, or no bits.
func noPayloads() []string {
	return append([]string{strings.Repeat("0", 101), strings.Repeat("1", 101), mixed(102, 3), mixed(107, 1), mixed(127, 3), mixed(128, 2), mixed(255, 1), strings.Repeat("0", 600)}, invalidBits...)
}

// someBits returns bits of many lengths, from none to the greatest number.
func someBits() []string {
	var list []string
	for length := range 7 {
		for bits := range sequencesOf(length) {
			list = append(list, bits[:length])
		}
	}
	random := rand.New(rand.NewPCG(6, 2))
	for _, length := range []int{7, 8, 9, 12, 20, 21, 28, 35, 36, 40, 60, 66, 67, 84, 99, 100, 120, 200, 255, 256, 300, 339, 340, 344, 400, 588, 595, 596, 598, 599, 600} {
		list = append(list, randomBits(random, length), strings.Repeat("0", length), strings.Repeat("1", length))
	}
	return list
}

// someRegisters returns valid registers of all sizes, those of the state 0 among them.
func someRegisters() []impl.Register {
	return []impl.Register{{Size: 3, Taps: 3, State: 1}, {Size: 2, Taps: 1, State: 0}, {Size: 8, Taps: 29, State: 0}, {Size: 8, Taps: 29, State: 255}, {Size: 5, Taps: 5, State: 19}, {Size: 4, Taps: 8, State: 6}, {Size: 2, Taps: 2, State: 3}, {Size: 7, Taps: 127, State: 64}}
}

// streams returns bits of frames, of frames of which some bits are changed or cut off, of flags and parts of them, and of other bits between them.
func streams(count int) []string {
	random := rand.New(rand.NewPCG(6, 3))
	list := make([]string, count)
	for i := range list {
		text := ""
		for range 1 + random.IntN(6) {
			text += piece(random)
		}
		list[i] = text[:min(len(text), 600)]
	}
	return list
}

// piece returns a part of a stream.
func piece(random *rand.Rand) string {
	whole := framed(randomBits(random, random.IntN(1+random.IntN(101))))
	switch random.IntN(7) {
	case 0:
		return randomBits(random, random.IntN(20))
	case 1:
		return whole[:random.IntN(len(whole)+1)]
	case 2:
		return flipped(whole, random.IntN(len(whole)))
	case 3:
		return flag[:random.IntN(9)]
	case 4:
		return framed(randomBits(random, random.IntN(30)) + framed(randomBits(random, random.IntN(20))))
	}
	return whole
}
