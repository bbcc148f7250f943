package tests

import (
	"fmt"
	"math/rand/v2"
	"regexp"
	"strconv"
	"strings"

	"loop.example/spreadspectrum/impl"
)

// numberPattern matches the numbers of a script.
var numberPattern = regexp.MustCompile(`^(0|-?[1-9][0-9]{0,16})$`)

// scriptFields tells for each word of a line with a rest which of its fields are numbers (n), bits or a path that may be empty (e), and other texts (t); * stands for any number of fields.
var scriptFields = map[string]string{
	"register": "*", "jump": "n", "bits": "n", "hops": "nn", "shortest": "t", "maximal": "n", "cross": "ttn", "peak": "tt", "gold": "nnnn", "walsh": "nn", "tree": "e",
	"spread": "et", "gain": "n", "despread": "tn", "receive": "tnn", "frame": "e", "find": "t", "protect": "en", "open": "tn",
	"cell": "*", "admit": "tnn", "release": "t", "power": "n", "send": "*", "hear": "tn",
}

// A scriptModel has what the lines of a script change.
type scriptModel struct {
	register impl.Register
	cell     []impl.Station
	signal   []int
}

// firstModel is what a script begins with.
var firstModel = scriptModel{register: impl.Register{Size: 3, Taps: 3, State: 1}}

// orDash returns a text, or a dash for none.
func orDash(text string) string {
	if len(text) == 0 {
		return "-"
	}
	return text
}

// orNothing undoes orDash.
func orNothing(field string) string {
	if field == "-" {
		return ""
	}
	return field
}

// numbersLine writes numbers with spaces between them.
func numbersLine(list []int) string {
	return orDash(strings.Trim(fmt.Sprint(list), "[]"))
}

// executed returns the output of a script by the model.
func executed(script string) string {
	if len(script) > 20000 {
		return "long\n"
	}
	m, output := firstModel, ""
	for i, line := range strings.Split(script, "\n") {
		switch {
		case line == "":
		case i > 99 || len(output) > 40000:
			return output + "full\n"
		default:
			output += m.line(line) + "\n"
		}
	}
	return output
}

// line returns the output of a line that is not empty.
func (m *scriptModel) line(line string) string {
	parts := strings.SplitN(line, " ", 2)
	if len(parts) == 1 {
		return m.bareLine(line)
	}
	kinds, is := scriptFields[parts[0]]
	if kinds == "*" {
		return m.restLine(parts[0], parts[1])
	}
	fields := strings.Split(parts[1], " ")
	if !is || len(fields) != len(kinds) {
		return "what"
	}
	numbers := make([]int, len(fields))
	for i, field := range fields {
		if kinds[i] == 'n' && !numberPattern.MatchString(field) {
			return "no"
		}
		numbers[i], _ = strconv.Atoi(field)
		if kinds[i] == 'e' {
			fields[i] = orNothing(field)
		}
	}
	if output, ok := m.fieldLine(parts[0], fields, numbers); ok {
		return output
	}
	return "no"
}

// bareLine returns the output of a line without a rest.
func (m *scriptModel) bareLine(word string) string {
	switch word {
	case "register":
		return fmt.Sprintf("%d %d %d", m.register.Size, m.register.Taps, m.register.State)
	case "period":
		lead, period := modelOf(m.register).orbit()
		return fmt.Sprintf("%d %d", period, lead)
	case "signal":
		return numbersLine(m.signal)
	case "cell":
		return cellText(m.cell)
	case "forget":
		*m = firstModel
		return "ok"
	}
	return "what"
}

// restLine returns the output of a line that has any number of fields.
func (m *scriptModel) restLine(word, rest string) string {
	switch word {
	case "register":
		if r, ok := impl.ParseRegister(rest); ok {
			m.register = r
			return "ok"
		}
	case "cell":
		if list, ok := parsedCell(rest); ok {
			m.cell = list
			return "ok"
		}
	case "send":
		data := strings.Split(rest, " ")
		for i, field := range data {
			data[i] = orNothing(field)
		}
		if s, ok := impl.CellSignal(m.cell, data); ok {
			m.signal = s
			return numbersLine(s)
		}
	}
	return "no"
}

// fieldLine returns the output of a line with fields, and true if it is not `no`.
func (m *scriptModel) fieldLine(word string, f []string, n []int) (string, bool) {
	switch word {
	case "shortest":
		r, ok := impl.ShortestRegister(f[0])
		return impl.FormatRegister(r), ok
	case "maximal":
		list := maximalTaps(n[0])
		return numbersLine(list), len(list) > 0
	case "cross":
		value, ok := impl.CrossOf(f[0], f[1], n[2])
		return fmt.Sprint(value), ok
	case "peak":
		shift := impl.PeakOf(f[0], f[1])
		return fmt.Sprint(shift), shift != -1
	case "gold":
		return impl.GoldCode(n[0], n[1], n[2], n[3])
	case "walsh":
		return impl.WalshCode(n[0], n[1])
	case "tree":
		return impl.TreeCode(f[0])
	case "frame":
		return impl.FrameOf(f[0])
	case "find":
		var texts []string
		for _, payload := range impl.AllFrames(f[0]) {
			texts = append(texts, orDash(payload))
		}
		return strings.Join(texts, " "), len(texts) > 0
	case "admit", "release", "power":
		return m.cellLine(word, f, n)
	case "spread", "gain", "despread":
		return m.signalLine(word, f, n)
	}
	return m.bitsLine(word, f, n)
}

// cellLine returns the output of a line that changes the cell.
func (m *scriptModel) cellLine(word string, f []string, n []int) (string, bool) {
	var list []impl.Station
	ok := false
	switch word {
	case "admit":
		list, ok = impl.AdmitStation(m.cell, f[0], n[1], n[2])
	case "release":
		list, ok = impl.ReleaseStation(m.cell, f[0])
	case "power":
		list, ok = impl.PowerStep(m.cell, n[0])
	}
	if ok {
		m.cell = list
	}
	return cellText(list), ok
}

// signalLine returns the output of a line of numbers about the signal, which despread does not change.
func (m *scriptModel) signalLine(word string, f []string, n []int) (string, bool) {
	var s []int
	ok := false
	switch word {
	case "despread":
		s, ok = impl.DespreadSignal(m.signal, f[0], n[1])
		return numbersLine(s), ok
	case "spread":
		s, ok = impl.SpreadBits(f[0], f[1])
	case "gain":
		s, ok = impl.ScaleSignal(m.signal, n[0])
	}
	if ok {
		m.signal = s
	}
	return numbersLine(s), ok
}

// bitsLine returns the output of a line that asks the register or the signal, or protects bits.
func (m *scriptModel) bitsLine(word string, f []string, n []int) (string, bool) {
	bits, ok := "", false
	switch word {
	case "jump":
		r, ok := impl.JumpRegister(m.register, n[0])
		if ok {
			m.register = r
		}
		return impl.FormatRegister(r), ok
	case "hops":
		h, ok := impl.HopSequence(m.register, n[0], n[1])
		return numbersLine(h), ok
	case "bits":
		bits, ok = impl.RunRegister(m.register, n[0])
	case "receive":
		bits, ok = impl.ReceiveUser(m.signal, f[0], n[1], n[2])
	case "protect":
		bits, ok = impl.ProtectPayload(f[0], n[1], m.register)
	case "open":
		bits, ok = impl.OpenPayload(f[0], n[1], m.register)
	case "hear":
		bits, ok = impl.CellReceive(m.cell, m.signal, f[0], n[1])
	}
	return orDash(bits), ok
}

// pick returns one of several texts.
func pick(random *rand.Rand, list ...string) string {
	return list[random.IntN(len(list))]
}

// between returns a number as a text.
func between(random *rand.Rand, least, most int) string {
	return strconv.Itoa(least + random.IntN(most-least+1))
}

// protectedText returns protected bits of a register, of which one is changed now and then.
func protectedText(random *rand.Rand, r impl.Register, rows int) string {
	bits, _ := impl.ProtectPayload(randomBits(random, random.IntN(12)), rows, r)
	if random.IntN(3) == 0 {
		return flipped(bits, random.IntN(len(bits)))
	}
	return bits
}

// likelyLine returns a line that is likely to be executed by an interpreter in this state.
func likelyLine(random *rand.Rand, m *scriptModel) string {
	switch random.IntN(4) {
	case 0:
		return pick(random, "register", "period", "signal", "cell", "forget")
	case 1:
		return likelyRegisterLine(random, m, pick(random, "register", "jump", "bits", "hops", "shortest", "protect", "open"))
	case 2:
		return likelyCodeLine(random, pick(random, "maximal", "cross", "peak", "gold", "walsh", "tree", "frame", "find", "spread", "gain", "despread", "receive"))
	}
	return likelyCellLine(random, m, pick(random, "cell", "admit", "admit", "admit", "admit", "release", "power", "send", "send", "send", "hear", "hear", "hear"))
}

// someData returns bits that may be empty, as a script writes them.
func someData(random *rand.Rand) string {
	return pick(random, "-", "", "0", "1", "01", "110", randomBits(random, random.IntN(9)))
}

// likelyRegisterLine returns a line with this word, which sets or asks the register.
func likelyRegisterLine(random *rand.Rand, m *scriptModel, word string) string {
	switch word {
	case "register":
		return word + " " + pick(random, "3 3 1", "5 5 1", "8 29 77", "4 8 3", "2 2 3", between(random, 2, 8)+" "+between(random, 1, 9)+" "+between(random, 0, 9))
	case "jump":
		return word + " " + pick(random, between(random, -9, 9), "5000", "-5000", "5001", "-5001")
	case "bits":
		return word + " " + pick(random, between(random, 0, 20), between(random, 0, 20), "600", "601", "-1")
	case "hops":
		return word + " " + between(random, 0, 17) + " " + pick(random, between(random, 0, 9), "300", "301", "-1")
	case "shortest":
		bits, _ := impl.RunRegister(m.register, 8+random.IntN(58))
		return word + " " + pick(random, bits, randomBits(random, 7+random.IntN(9)))
	case "protect":
		return word + " " + someData(random) + " " + between(random, 0, 5)
	}
	rows := 1 + random.IntN(4)
	return word + " " + protectedText(random, m.register, rows) + " " + strconv.Itoa(rows)
}

// likelyCodeLine returns a line with this word, about sequences, codes, frames or the signal.
func likelyCodeLine(random *rand.Rand, word string) string {
	code := pick(random, "0", "01", "0101", "0011", "110", "1001011", "00001111")
	a := pick(random, randomBits(random, 3), randomBits(random, 7), "1001011")
	b := pick(random, a, reversed(a), randomBits(random, 7))
	switch word {
	case "maximal":
		return word + " " + between(random, 1, 9)
	case "cross":
		return word + " " + a + " " + b + " " + between(random, -20, 20)
	case "peak":
		return word + " " + a + " " + b
	case "gold":
		size := 2 + random.IntN(5)
		taps := maximalTaps(size)
		return fmt.Sprint(word, " ", size, " ", taps[random.IntN(len(taps))], " ", taps[random.IntN(len(taps))], " ", random.IntN(12)-3)
	case "walsh":
		return word + " " + between(random, -1, 7) + " " + between(random, -1, 9)
	case "find":
		return word + " " + pick(random, framed(""), framed("01")+framed(""), "0"+framed("1"), framed("110")+"1"+framed("0"), randomBits(random, 30), "-", "")
	case "spread":
		return word + " " + someData(random) + " " + code
	case "gain":
		return word + " " + pick(random, between(random, -3, 3), "0", "1000000", "1000001", "-1000000")
	case "despread":
		return word + " " + code + " " + pick(random, between(random, 0, 9), "600", "601")
	case "receive":
		return word + " " + code + " " + between(random, 0, 5) + " " + between(random, 0, 9)
	}
	return word + " " + someData(random)
}

// likelyCellLine returns a line with this word, about the cell and its stations.
func likelyCellLine(random *rand.Rand, m *scriptModel, word string) string {
	name := pick(random, "a", "b", "c", "d", "ee")
	if len(m.cell) > 0 && random.IntN(4) > 0 {
		name = m.cell[random.IntN(len(m.cell))].Name
	}
	switch word {
	case "cell":
		return word + " " + pick(random, "-", cellText(randomCell(random)), "a:0:6:3;b:10:1:2", "a:-:1000:20", "a:0:0:3;b:0:1:1")
	case "admit":
		return word + " " + name + pick(random, "", "x", "y") + " " + pick(random, "1", "2", "3", "4", between(random, -1, 7)) + " " + between(random, 0, 21)
	case "power":
		return word + " " + between(random, -1, 41)
	case "send":
		fields := []string{someData(random)}
		for range len(m.cell) - 1 {
			fields = append(fields, someData(random))
		}
		return word + " " + strings.Join(fields, " ")
	case "hear":
		return word + " " + name + " " + between(random, 0, 9)
	}
	return word + " " + name
}

// oddFields are no numbers, or numbers past all limits.
var oddFields = []string{"", "-", "x", "-0", "00", "01", "+1", "--1", "1.0", "0x1", "1_0", "1e1", "-x", "-01", "1 ", "\t1", "\u0661", "99999999999999999", "-99999999999999999", "100000000000000000", "-100000000000000000", "00000000000000001", "9223372036854775808", strings.Repeat("9", 40)}

// brokenLine returns a line of which a field is another one, is missing, or is there twice, or a space is.
func brokenLine(random *rand.Rand, line string) string {
	fields := strings.Split(line, " ")
	i := random.IntN(len(fields))
	switch random.IntN(6) {
	case 0:
		fields = append(fields[:i:i], fields[i+1:]...)
	case 1:
		fields[i] += " " + fields[i]
	case 2:
		fields[i] += " "
	case 3:
		fields[i] = " " + fields[i]
	default:
		fields[len(fields)-1-random.IntN((len(fields)+1)/2)] = pick(random, oddFields...)
	}
	return strings.Join(fields, " ")
}

// randomScript returns a script of lines that fit to what the lines before have changed, some of them broken or empty.
func randomScript(random *rand.Rand) string {
	m, script := firstModel, ""
	for range random.IntN(106) {
		line := likelyLine(random, &m)
		switch random.IntN(12) {
		case 0, 1:
			line = brokenLine(random, line)
		case 2:
			line = ""
		}
		if line != "" {
			m.line(line)
		}
		script += line + "\n"
	}
	return script[:max(0, len(script)-random.IntN(2))]
}
