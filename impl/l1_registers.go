package impl

import (
	"iter"
	"slices"
	"strconv"
	"strings"
)

// Limits of registers and bits.
const (
	MinSize = 2
	MaxSize = 8
	MaxBits = 600
	MaxJump = 5000
)

// ShortestRegister takes bits of these lengths.
const (
	minGiven = 8
	maxGiven = 64
)

// A Register has a number of cells, taps and a state, as bits of numbers.
type Register struct {
	Size  int
	Taps  int
	State int
}

// bitsValid reports whether a text is bits.
func bitsValid(text string) bool {
	if len(text) > MaxBits {
		return false
	}
	for i := range len(text) {
		if text[i] != '0' && text[i] != '1' {
			return false
		}
	}
	return true
}

// sizeValid reports whether a register can have as many cells.
func sizeValid(size int) bool {
	return size >= MinSize && size <= MaxSize
}

// tapsValid reports whether a register can have this size and these taps.
func tapsValid(size int, taps int) bool {
	return sizeValid(size) && taps > 0 && taps < 1<<size
}

// firstTapped reports whether the cell 0 has a tap: only then does each state have exactly one before it.
func firstTapped(taps int) bool {
	return taps&1 == 1
}

// step makes one step of a valid register.
func (r *Register) step() {
	sum := Parity(r.State & r.Taps)
	r.State = r.State>>1 | sum<<(r.Size-1)
}

// back undoes a step of a valid register whose cell 0 has a tap.
func (r *Register) back() {
	sum := r.State >> (r.Size - 1)
	r.State = r.State << 1 & (1<<r.Size - 1)
	// The cell 0 is still 0 here, so that the parity is that of the other taps, and what is missing in the sum came from the cell 0.
	r.State |= sum ^ Parity(r.State&r.Taps)
}

// run yields the next bits of a valid register, each with its index, and steps the register behind each of them.
func (r *Register) run(count int) iter.Seq2[int, byte] {
	return func(yield func(int, byte) bool) {
		for i := range count {
			if !yield(i, '0'+byte(r.State&1)) {
				return
			}
			r.step()
		}
	}
}

// RegisterValid reports whether a register is valid.
func RegisterValid(r Register) bool {
	return tapsValid(r.Size, r.Taps) && r.State >= 0 && r.State < 1<<r.Size
}

// FormatRegister returns the text of a register.
func FormatRegister(r Register) string {
	if !RegisterValid(r) {
		return ""
	}
	return strconv.Itoa(r.Size) + " " + strconv.Itoa(r.Taps) + " " + strconv.Itoa(r.State)
}

// ParseRegister parses the text of a register.
func ParseRegister(t string) (Register, bool) {
	fields := strings.Split(t, " ")
	if len(fields) != 3 {
		return Register{}, false
	}
	var numbers [3]int
	for i, field := range fields {
		n, err := strconv.Atoi(field)
		if err != nil {
			return Register{}, false
		}
		numbers[i] = n
	}
	r := Register{Size: numbers[0], Taps: numbers[1], State: numbers[2]}
	// Atoi also reads signs and leading zeros, which the text of a register does not have; a register that is not valid has the empty text, which t is not.
	if FormatRegister(r) != t {
		return Register{}, false
	}
	return r, true
}

// Parity returns the sum of the bits of a number, modulo 2.
func Parity(n int) int {
	if n < 0 {
		return -1
	}
	sum := 0
	for ; n > 0; n >>= 1 {
		sum ^= n & 1
	}
	return sum
}

// StepRegister returns a register after one step.
func StepRegister(r Register) (Register, bool) {
	return JumpRegister(r, 1)
}

// BackRegister undoes a step.
func BackRegister(r Register) (Register, bool) {
	return JumpRegister(r, -1)
}

// JumpRegister returns a register after many steps, also backwards.
func JumpRegister(r Register, k int) (Register, bool) {
	if !RegisterValid(r) || k < -MaxJump || k > MaxJump {
		return Register{}, false
	}
	if k < 0 && !firstTapped(r.Taps) {
		return Register{}, false
	}
	for range k {
		r.step()
	}
	for range -k {
		r.back()
	}
	return r, true
}

// RunRegister returns bits of a register, one after the other.
func RunRegister(r Register, count int) (string, bool) {
	if !RegisterValid(r) || count < 0 || count > MaxBits {
		return "", false
	}
	var text strings.Builder
	for _, bit := range r.run(count) {
		text.WriteByte(bit)
	}
	return text.String(), true
}

// RegisterFrom returns the register whose first bits are given.
func RegisterFrom(size int, taps int, bits string) (Register, bool) {
	if !tapsValid(size, taps) || len(bits) != size || !bitsValid(bits) {
		return Register{}, false
	}
	r := Register{Size: size, Taps: taps}
	for i := range size {
		// The cell i reaches the cell 0 after i steps.
		r.State |= int(bits[i]-'0') << i
	}
	return r, true
}

// AddRegisters adds the states of two registers.
func AddRegisters(a Register, b Register) (Register, bool) {
	if !RegisterValid(a) || !RegisterValid(b) || a.Size != b.Size || a.Taps != b.Taps {
		return Register{}, false
	}
	a.State ^= b.State
	return a, true
}

// orbitOf returns, for a valid register, how many states come before the first one that comes back, and after how many steps that one does.
func orbitOf(r Register) (lead int, period int) {
	var visits [1 << MaxSize]int // counted from 1, since 0 stands for none
	visit := 1
	for visits[r.State] == 0 {
		visits[r.State] = visit
		visit++
		r.step()
	}
	first := visits[r.State]
	return first - 1, visit - first
}

// PeriodOf returns after how many steps states repeat.
func PeriodOf(r Register) int {
	if !RegisterValid(r) {
		return -1
	}
	_, period := orbitOf(r)
	return period
}

// LeadOf returns how many states do not come back.
func LeadOf(r Register) int {
	if !RegisterValid(r) {
		return -1
	}
	lead, _ := orbitOf(r)
	return lead
}

// CycleLengths returns the lengths of all cycles of states.
func CycleLengths(size int, taps int) []int {
	if !tapsValid(size, taps) {
		return nil
	}
	var lengths []int
	var counted [1 << MaxSize]bool
	for state := range 1 << size {
		r := Register{Size: size, Taps: taps, State: state}
		lead, period := orbitOf(r)
		if lead > 0 || counted[state] {
			continue
		}
		lengths = append(lengths, period)
		for range period {
			counted[r.State] = true
			r.step()
		}
	}
	slices.Sort(lengths)
	return lengths
}

// IsMaximal reports whether a register visits all states but one.
func IsMaximal(size int, taps int) bool {
	return tapsValid(size, taps) && PeriodOf(Register{Size: size, Taps: taps, State: 1}) == 1<<size-1
}

// MaximalTaps returns all taps of a size that are maximal.
func MaximalTaps(size int) []int {
	if !sizeValid(size) {
		return nil
	}
	var list []int
	for taps := range 1 << size {
		if IsMaximal(size, taps) {
			list = append(list, taps)
		}
	}
	return list
}

// ReverseTaps returns the taps of a register whose bits come in reverse order.
func ReverseTaps(size int, taps int) int {
	if !tapsValid(size, taps) || !firstTapped(taps) {
		return -1
	}
	reversed := 1
	for i := 1; i < size; i++ {
		reversed |= taps >> i & 1 << (size - i)
	}
	return reversed
}

// startsWith reports whether the first bits of a valid register are the given ones.
func startsWith(r Register, bits string) bool {
	for i, bit := range r.run(len(bits)) {
		if bit != bits[i] {
			return false
		}
	}
	return true
}

// ShortestRegister returns the shortest register with given bits.
func ShortestRegister(bits string) (Register, bool) {
	if len(bits) < minGiven || len(bits) > maxGiven || !bitsValid(bits) {
		return Register{}, false
	}
	for size := MinSize; size <= MaxSize; size++ {
		for taps := 1; taps < 1<<size; taps++ {
			r, ok := RegisterFrom(size, taps, bits[:size])
			if ok && startsWith(r, bits) {
				return r, true
			}
		}
	}
	return Register{}, false
}
