package tests

import (
	"iter"
	"slices"

	"loop.example/spreadspectrum/impl"
)

// A model is a register written as the document tells it, cell by cell, to hold the program against.
type model struct {
	cells []int
	taps  []bool
}

// digits returns the binary digits of n, the lowest one first.
func digits(n, count int) []int {
	list := make([]int, count)
	for i := range list {
		list[i] = n % 2
		n /= 2
	}
	return list
}

// number undoes digits.
func number(list []int) int {
	n := 0
	for i := len(list) - 1; i >= 0; i-- {
		n = 2*n + list[i]
	}
	return n
}

func modelOf(r impl.Register) model {
	m := model{cells: digits(r.State, r.Size)}
	for _, d := range digits(r.Taps, r.Size) {
		m.taps = append(m.taps, d == 1)
	}
	return m
}

func (m model) state() int { return number(m.cells) }

// next returns the model after a step.
func (m model) next() model {
	sum := 0
	for i, tap := range m.taps {
		if tap {
			sum += m.cells[i]
		}
	}
	return model{cells: append(slices.Clone(m.cells[1:]), sum%2), taps: m.taps}
}

// bits returns the first bits of the model.
func (m model) bits(count int) string {
	list := make([]byte, count)
	for i := range list {
		list[i] = byte('0' + m.cells[0])
		m = m.next()
	}
	return string(list)
}

// orbit returns how many states come before the first one that comes back, and the number of steps after which that one does.
func (m model) orbit() (lead, period int) {
	var seen []int
	for !slices.Contains(seen, m.state()) {
		seen = append(seen, m.state())
		m = m.next()
	}
	lead = slices.Index(seen, m.state())
	return lead, len(seen) - lead
}

// cycles returns the sorted lengths of all cycles: each cycle is counted at its least state.
func cycles(size, taps int) []int {
	var list []int
	for state := range 1 << size {
		m := modelOf(impl.Register{Size: size, Taps: taps, State: state})
		least, length := state, 1
		for m = m.next(); m.state() != state && length <= 1<<size; m = m.next() {
			least = min(least, m.state())
			length++
		}
		if m.state() == state && least == state {
			list = append(list, length)
		}
	}
	slices.Sort(list)
	return list
}

// shortest returns the first model, by size and then by taps, that has the bits.
func shortest(bits string) (impl.Register, bool) {
	for size := 2; size <= 8; size++ {
		for taps := 1; taps < 1<<size; taps++ {
			for state := range 1 << size {
				r := impl.Register{Size: size, Taps: taps, State: state}
				if modelOf(r).bits(size) == bits[:size] && modelOf(r).bits(len(bits)) == bits {
					return r, true
				}
			}
		}
	}
	return impl.Register{}, false
}

// allTaps ranges over all sizes and all taps of them.
func allTaps() iter.Seq2[int, int] {
	return func(yield func(size, taps int) bool) {
		for size := 2; size <= 8; size++ {
			for taps := 1; taps < 1<<size; taps++ {
				if !yield(size, taps) {
					return
				}
			}
		}
	}
}

// allRegisters ranges over all valid registers.
func allRegisters() iter.Seq[impl.Register] {
	return func(yield func(impl.Register) bool) {
		for size, taps := range allTaps() {
			for state := range 1 << size {
				if !yield(impl.Register{Size: size, Taps: taps, State: state}) {
					return
				}
			}
		}
	}
}

// reversed returns a text in reverse order.
func reversed(text string) string {
	list := []byte(text)
	slices.Reverse(list)
	return string(list)
}

// sumOf returns the sums of the bits at each index, modulo 2.
func sumOf(a, b string) string {
	list := make([]byte, len(a))
	for i := range list {
		list[i] = '0' + (a[i]-'0'+b[i]-'0')%2
	}
	return string(list)
}
