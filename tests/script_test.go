package tests

import (
	"fmt"
	"math/rand/v2"
	"slices"
	"strings"
	"testing"

	"loop.example/spreadspectrum/impl"
)

// wantOutput holds the output of a script against the wanted lines, and against the model.
func wantOutput(t *testing.T, script string, want ...string) {
	t.Helper()
	text := ""
	for _, line := range want {
		text += line + "\n"
	}
	wantText(t, fmt.Sprintf("RunScript(%.200q)", script), impl.RunScript(script), text)
	wantText(t, fmt.Sprintf("the model of %.200q", script), executed(script), text)
}

// TestScriptsOfAnyLines holds scripts of many lines against the model, and sees to it that each word was executed, was not, and was unknown.
func TestScriptsOfAnyLines(t *testing.T) {
	random := rand.New(rand.NewPCG(8, 6))
	done, failed, unknown := map[string]int{}, map[string]int{}, map[string]int{}
	for range 1500 {
		script := randomScript(random)
		got := impl.RunScript(script)
		if want := executed(script); got != want {
			line, a, b := firstDifference(script, got, want)
			t.Errorf("RunScript: the line %q has the output %.300q, want %.300q", line, a, b)
		}
		outputs := strings.Split(got, "\n")
		for i, line := range slices.DeleteFunc(strings.Split(script, "\n"), func(line string) bool { return line == "" }) {
			switch word, _, _ := strings.Cut(line, " "); outputs[min(i, len(outputs)-1)] {
			case "no":
				failed[word]++
			case "what":
				unknown[word]++
			default:
				done[word]++
			}
		}
	}
	for word := range scriptFields {
		if done[word] < 100 || failed[word] < 10 || unknown[word] < 10 && word != "register" && word != "cell" && word != "send" {
			t.Errorf("%q was executed %d times, failed %d times, and was unknown %d times: the test shows little", word, done[word], failed[word], unknown[word])
		}
	}
}

// firstDifference returns the first line whose outputs differ.
func firstDifference(script, a, b string) (line, first, second string) {
	lines := slices.DeleteFunc(strings.Split(script, "\n"), func(line string) bool { return line == "" })
	x, y := strings.Split(a, "\n"), strings.Split(b, "\n")
	for i := range min(len(lines), len(x), len(y)) {
		if x[i] != y[i] {
			return lines[i], x[i], y[i]
		}
	}
	return "", a, b
}

func TestRegisterLines(t *testing.T) {
	for _, c := range [][]string{
		{"register", "3 3 1"}, {"register 3 3 1", "ok"}, {"register 8 29 255\nregister", "ok", "8 29 255"}, {"register 3 3 0\nregister", "ok", "3 3 0"},
		{"register 3 3", "no"}, {"register 3 3 1 1", "no"}, {"register ", "no"}, {"register  ", "no"}, {"register 3 3 8\nregister", "no", "3 3 1"}, {"register 3  3 1", "no"}, {"register 3 3 1 ", "no"}, {"register  3 3 1", "no"}, {"register 03 3 1", "no"}, {"register 3 3 -0", "no"}, {"register x", "no"}, {"register -", "no"}, {"register 9 3 1", "no"},
		{"jump 3", "3 3 5"}, {"jump 3\nregister", "3 3 5", "3 3 5"}, {"jump -1\njump 1", "3 3 3", "3 3 1"}, {"jump 0", "3 3 1"}, {"jump 5000\njump -5000", "3 3 2", "3 3 1"}, {"jump 1\njump 5001\njump -5001\nregister", "3 3 4", "no", "no", "3 3 4"}, {"register 4 8 3\njump 1\njump -1\nregister", "ok", "4 8 1", "no", "4 8 1"},
		{"jump", "what"}, {"jump ", "no"}, {"jump 1 1", "what"}, {"jump  1", "what"}, {"jump 1 ", "what"}, {"jump x", "no"}, {"jump -0", "no"}, {"jump 01", "no"}, {"jump +1", "no"}, {"jump -", "no"}, {"jump 99999999999999999", "no"},
		{"period", "7 0"}, {"register 3 3 0\nperiod", "ok", "1 0"}, {"register 4 8 3\nperiod", "ok", "1 2"}, {"register 8 29 1\nperiod", "ok", "255 0"}, {"period ", "what"}, {"period 1", "what"}, {"period x y", "what"},
		{"bits 7", "1001011"}, {"bits 0", "-"}, {"bits 1", "1"}, {"bits 600", strings.Repeat("1001011", 86)[:600]}, {"bits 601", "no"}, {"bits -1", "no"}, {"bits 7\nregister", "1001011", "3 3 1"},
		{"bits", "what"}, {"bits ", "no"}, {"bits 1 2", "what"}, {"bits  7", "what"}, {"bits 07", "no"}, {"bits -0", "no"}, {"bits x", "no"}, {"bits 7x", "no"}, {"bits +7", "no"}, {"bits 99999999999999999", "no"}, {"bits 100000000000000000", "no"}, {"bits 18446744073709551623", "no"},
		{"hops 8 3", "1 5 3"}, {"jump 3\nhops 8 3\nregister", "3 3 5", "5 3 2", "3 3 5"}, {"hops 1 2", "0 0"}, {"hops 16 0", "-"}, {"hops 0 3", "no"}, {"hops 17 3", "no"}, {"hops 8 -1", "no"}, {"hops 8 301", "no"}, {"hops 8 300", strings.TrimSuffix(strings.Repeat("1 5 3 2 7 4 6 ", 43)[:600], " ")},
		{"hops", "what"}, {"hops ", "what"}, {"hops 8", "what"}, {"hops 8 3 1", "what"}, {"hops  3", "no"}, {"hops 8 ", "no"}, {"hops x 3", "no"}, {"hops 8 x", "no"}, {"hops  ", "no"}, {"hops  8 3", "what"},
		{"shortest 1001011100", "3 3 1"}, {"jump 1\nshortest 1001011100\nregister", "3 3 4", "3 3 1", "3 3 4"}, {"shortest 00000000", "2 1 0"}, {"shortest 1001011", "no"}, {"shortest 10010111", "3 3 1"}, {"shortest -", "no"}, {"shortest ", "no"}, {"shortest x", "no"}, {"shortest", "what"}, {"shortest 10010111 0", "what"}, {"shortest 00000000000000001", "no"},
		{"shortest " + strings.Repeat("0", 64), "2 1 0"}, {"shortest " + strings.Repeat("0", 65), "no"},
		{"maximal 3", "3 5"}, {"maximal 2", "3"}, {"maximal 1", "no"}, {"maximal 9", "no"}, {"maximal -1", "no"}, {"maximal 8", "29 43 45 77 95 99 101 105 113 135 141 169 195 207 231 245"}, {"maximal", "what"}, {"maximal ", "no"}, {"maximal 3 3", "what"}, {"maximal x", "no"}, {"maximal 03", "no"},
	} {
		wantOutput(t, c[0], c[1:]...)
	}
}

func TestCodeLines(t *testing.T) {
	for _, c := range [][]string{
		{"cross 110 011 1", "3"}, {"cross 110 011 -1", "-1"}, {"cross 110 011 0", "-1"}, {"cross 1001011 1001011 14", "7"}, {"cross 110 011 x", "no"}, {"cross 110 01 1", "no"}, {"cross 110 x 1", "no"}, {"cross - - 0", "no"}, {"cross   0", "no"}, {"cross 110 011 ", "no"}, {"cross 110  1", "no"}, {"cross  110 1", "no"},
		{"cross 110 011 -0", "no"}, {"cross 110 011 01", "no"}, {"cross 110 011 -01", "no"}, {"cross 110 011 +1", "no"}, {"cross", "what"}, {"cross ", "what"}, {"cross 110 011", "what"}, {"cross 110 011 1 1", "what"}, {"cross 110  011 1", "what"}, {"cross  110 011 1", "what"}, {"cross 110 011 1 ", "what"},
		// Numbers of 17 digits are numbers of any shift, and those of 18 digits are none.
		{"cross 110 011 99999999999999999", "-1"}, {"cross 110 011 -99999999999999999", "-1"}, {"cross 110 011 10000000000000000", "3"}, {"cross 110 011 -10000000000000000", "-1"}, {"cross 110 011 -99999999999999998", "3"}, {"cross 110 011 99999999999999997", "3"},
		{"cross 110 011 100000000000000000", "no"}, {"cross 110 011 -100000000000000000", "no"}, {"cross 110 011 999999999999999999", "no"}, {"cross 110 011 000000000000000001", "no"}, {"cross 110 011 9223372036854775807", "no"}, {"cross 110 011 9223372036854775808", "no"}, {"cross 110 011 -9223372036854775808", "no"}, {"cross 110 011 " + strings.Repeat("1", 300), "no"},
		{"peak 1001011 0010111", "6"}, {"peak 1001011 1001011", "0"}, {"peak 1 1", "0"}, {"peak 1001011 001011", "no"}, {"peak - -", "no"}, {"peak  ", "no"}, {"peak x x", "no"}, {"peak 1001011 ", "no"}, {"peak", "what"}, {"peak ", "what"}, {"peak 1001011", "what"}, {"peak 1 1 1", "what"}, {"peak 1  1", "what"},
		{"gold 3 3 5 0", "0000101"}, {"gold 3 3 5 -2", "1001011"}, {"gold 3 3 5 -1", "1001110"}, {"gold 3 3 5 6", "1101100"}, {"gold 3 3 5 7", "no"}, {"gold 3 3 5 -3", "no"}, {"gold 3 3 4 0", "no"}, {"gold 7 3 3 0", "no"}, {"gold 3 3 3 0", "0000000"}, {"gold x 3 5 0", "no"}, {"gold 3 x 5 0", "no"}, {"gold 3 3 x 0", "no"}, {"gold 3 3 5 x", "no"}, {"gold 3 3 5 -0", "no"}, {"gold 3 3 5 ", "no"}, {"gold 3  5 0", "no"},
		{"gold", "what"}, {"gold ", "what"}, {"gold 3 3 5", "what"}, {"gold 3 3 5 0 0", "what"}, {"gold 3 3  5 0", "what"},
		{"walsh 2 3", "0110"}, {"walsh 0 0", "0"}, {"walsh 6 0", strings.Repeat("0", 64)}, {"walsh 2 4", "no"}, {"walsh 2 -1", "no"}, {"walsh 7 0", "no"}, {"walsh -1 0", "no"}, {"walsh x 0", "no"}, {"walsh 2 x", "no"}, {"walsh 2 03", "no"}, {"walsh 2 ", "no"}, {"walsh  3", "no"}, {"walsh", "what"}, {"walsh ", "what"}, {"walsh 2", "what"}, {"walsh 2 3 0", "what"}, {"walsh 2  3", "what"},
		{"tree 11", "0110"}, {"tree -", "0"}, {"tree ", "0"}, {"tree 000000", strings.Repeat("0", 64)}, {"tree 0000000", "no"}, {"tree 2", "no"}, {"tree --", "no"}, {"tree", "what"}, {"tree 1 1", "what"}, {"tree  1", "what"}, {"tree  ", "what"}, {"tree - ", "what"},
	} {
		wantOutput(t, c[0], c[1:]...)
	}
}

func TestSignalLines(t *testing.T) {
	for _, c := range [][]string{
		{"signal", "-"}, {"spread 01 0101\nsignal", "1 -1 1 -1 -1 1 -1 1", "1 -1 1 -1 -1 1 -1 1"}, {"spread 1 1\nspread - 01\nsignal", "1", "-", "-"}, {"spread 1 1\nspread  01\nsignal", "1", "-", "-"}, {"signal ", "what"}, {"signal 1", "what"},
		{"spread 1 1\nspread 01 -\nspread 01 \nspread x 1\nspread 0 x\nspread -- 1\nsignal", "1", "no", "no", "no", "no", "no", "1"}, {"spread " + strings.Repeat("1", 12) + " " + strings.Repeat("1", 255), "no"}, {"spread - -", "no"}, {"spread  ", "no"},
		{"spread", "what"}, {"spread ", "what"}, {"spread 01", "what"}, {"spread 01 01 01", "what"}, {"spread 01  01", "what"}, {"spread 01 01 ", "what"},
		{"spread 01 1\ngain 3\nsignal", "-1 1", "-3 3", "-3 3"}, {"spread 01 1\ngain -2\ngain 0\ngain 5", "-1 1", "2 -2", "0 0", "0 0"}, {"gain 3", "-"}, {"gain 1000000", "-"}, {"gain 1000001", "no"}, {"spread 01 1\ngain 1000000\ngain 2\ngain -1000001\nsignal", "-1 1", "-1000000 1000000", "no", "no", "-1000000 1000000"},
		{"gain", "what"}, {"gain ", "no"}, {"gain x", "no"}, {"gain 1 1", "what"}, {"gain -0", "no"}, {"gain 03", "no"}, {"gain -", "no"},
		{"spread 01 0101\ndespread 0101 2\nsignal", "1 -1 1 -1 -1 1 -1 1", "4 -4", "1 -1 1 -1 -1 1 -1 1"}, {"despread 0101 3", "0 0 0"}, {"despread 0101 0", "-"}, {"despread 0101 -1", "no"}, {"despread 0101 601", "no"}, {"despread - 1", "no"}, {"despread  1", "no"}, {"despread x 1", "no"}, {"despread 01 x", "no"}, {"despread 01 ", "no"},
		{"despread", "what"}, {"despread ", "what"}, {"despread 0101", "what"}, {"despread 0101 2 2", "what"}, {"despread 0101  2", "what"},
		{"spread 01 0101\nreceive 0101 0 2\nreceive 0101 4 2\nreceive 0101 1 1\nreceive 0101 0 0\nsignal", "1 -1 1 -1 -1 1 -1 1", "01", "10", "1", "-", "1 -1 1 -1 -1 1 -1 1"}, {"receive 0101 0 2", "00"}, {"receive 0101 3000 1", "0"}, {"receive 0101 3001 1", "no"}, {"receive 0101 -1 1", "no"}, {"receive 0101 0 -1", "no"}, {"receive 0101 0 601", "no"}, {"receive - 0 1", "no"}, {"receive  0 1", "no"}, {"receive 01 x 1", "no"}, {"receive 01 0 x", "no"}, {"receive 01 -0 1", "no"}, {"receive 01 0 01", "no"},
		{"receive", "what"}, {"receive ", "what"}, {"receive 0101 0", "what"}, {"receive 0101 0 2 2", "what"}, {"receive 0101  0 2", "what"},
	} {
		wantOutput(t, c[0], c[1:]...)
	}
}

func TestFrameLines(t *testing.T) {
	long, protectedBits := strings.Repeat("1", 100), protected("1", 3, firstModel.register)
	for _, c := range [][]string{
		{"frame 1", "111010000000001100001001"}, {"frame -", "11101000000000000000000"}, {"frame ", "11101000000000000000000"}, {"frame " + long, framed(long)}, {"frame " + long + "1", "no"}, {"frame x", "no"}, {"frame --", "no"}, {"frame", "what"}, {"frame 1 1", "what"}, {"frame  1", "what"}, {"frame  ", "what"},
		{"find 00111010000000001100001001", "1"}, {"find " + framed("") + framed("01") + "0" + framed(""), "- 01 -"}, {"find " + framed(""), "-"}, {"find 0", "no"}, {"find ", "no"}, {"find -", "no"}, {"find x", "no"}, {"find " + framed("1") + "x", "no"}, {"find", "what"}, {"find " + framed("1") + " " + framed("1"), "what"}, {"find  " + framed("1"), "what"},
		{"protect 1 3", protectedBits}, {"protect - 1", protected("", 1, firstModel.register)}, {"protect  1", protected("", 1, firstModel.register)}, {"jump 2\nprotect 1 3", "3 3 2", protected("1", 3, impl.Register{Size: 3, Taps: 3, State: 2})}, {"protect 1 40", protected("1", 40, firstModel.register)}, {"protect 1 0", "no"}, {"protect 1 41", "no"}, {"protect x 3", "no"}, {"protect 1 x", "no"}, {"protect 1 ", "no"}, {"protect 1 03", "no"}, {"protect " + long + "1 1", "no"}, {"protect -- 1", "no"},
		{"protect", "what"}, {"protect ", "what"}, {"protect 1", "what"}, {"protect 1 3 3", "what"}, {"protect 1  3", "what"}, {"protect  1 3", "what"},
		{"open " + protectedBits + " 3", "1"}, {"open " + flipped(protectedBits, 5, 6, 7) + " 3", "1"}, {"open " + protected("", 2, firstModel.register) + " 2", "-"}, {"jump 1\nopen " + protectedBits + " 3", "3 3 4", "no"}, {"open " + protectedBits + " 2", "no"}, {"open " + protectedBits + " 0", "no"}, {"open " + protectedBits + " x", "no"}, {"open " + protectedBits + " ", "no"}, {"open - 3", "no"}, {"open  3", "no"}, {"open x 3", "no"},
		{"open", "what"}, {"open ", "what"}, {"open " + protectedBits, "what"}, {"open " + protectedBits + " 3 3", "what"}, {"open " + protectedBits + "  3", "what"},
	} {
		wantOutput(t, c[0], c[1:]...)
	}
}

func TestCellLines(t *testing.T) {
	full := cellText(stationsAt(pathsOf(3)...))
	for _, c := range [][]string{
		{"cell", "-"}, {"cell -", "ok"}, {"cell a:0:6:3;b:10:1:2\ncell", "ok", "a:0:6:3;b:10:1:2"}, {"cell a:0:6:3\ncell -\ncell", "ok", "ok", "-"}, {"cell a:-:6:3\ncell", "ok", "a:-:6:3"}, {"cell " + full + "\ncell\ncell " + full + ";q:1:1:1\ncell", "ok", full, "no", full},
		{"cell a:0:6:3\ncell \ncell  \ncell a::6:3\ncell a:0:6:3;a:1:6:3\ncell - \ncell a:0:6:3 b:1:1:1\ncell x y\ncell", "ok", "no", "no", "no", "no", "no", "no", "no", "a:0:6:3"},
		{"admit a 1 3\nadmit b 2 2\ncell", "a:0:1:3", "a:0:1:3;b:10:1:2", "a:0:1:3;b:10:1:2"}, {"admit a 0 20\nadmit b 0 1\ncell", "a:-:1:20", "no", "a:-:1:20"}, {"admit a 1 3\nadmit a 1 3\nadmit - 1 3\nadmit  1 3\nadmit A 1 3\nadmit abcdefghi 1 3\nadmit b -1 3\nadmit b 7 3\nadmit b 1 0\nadmit b 1 21\ncell", "a:0:1:3", "no", "no", "no", "no", "no", "no", "no", "no", "no", "a:0:1:3"},
		{"admit a x 3", "no"}, {"admit a 1 x", "no"}, {"admit a 01 3", "no"}, {"admit a -0 3", "no"}, {"admit a 1 ", "no"}, {"admit a  3", "no"}, {"admit", "what"}, {"admit ", "what"}, {"admit a 1", "what"}, {"admit a 1 3 3", "what"}, {"admit a  1 3", "what"}, {"cell " + full + "\nadmit q 6 1\ncell", "ok", "no", full},
		{"cell a:0:6:3;b:10:1:2\nrelease a\nrelease a\nrelease b\ncell", "ok", "b:10:1:2", "no", "-", "-"}, {"release a", "no"}, {"release ", "no"}, {"release -", "no"}, {"release", "what"}, {"release a b", "what"}, {"release  a", "what"}, {"cell a:0:6:3\nrelease a ", "ok", "what"},
		{"cell a:0:6:3;b:10:1:2\npower 1\npower 1\ncell", "ok", "a:0:5:3;b:10:2:2", "a:0:4:3;b:10:2:2", "a:0:4:3;b:10:2:2"}, {"power 0", "-"}, {"power 40", "-"}, {"cell a:0:6:3\npower 41\npower -1\npower x\npower \npower 01\npower -0\ncell", "ok", "no", "no", "no", "no", "no", "no", "a:0:6:3"}, {"power", "what"}, {"power 1 1", "what"}, {"power  1", "what"},
		{"cell a:0:6:3;b:10:3:2\nsend 01 1\nsignal", "ok", "1 3 -3 -1", "1 3 -3 -1"}, {"cell a:0:6:3;b:10:3:2\nsend - 1\nsend  1\nsend 01 -\nsend 01 \nsend - -\nsend  \nsignal", "ok", "-1 1 -1 1", "-1 1 -1 1", "2 2 -2 -2", "2 2 -2 -2", "-", "-", "-"}, {"cell a:-:6:3\nsend 01\nsend -\nsend \nsend", "ok", "2 -2", "-", "-", "what"},
		{"send -", "no"}, {"send ", "no"}, {"send", "what"}, {"send 01", "no"}, {"cell a:0:6:3;b:10:3:2\nspread 1 1\nsend 01\nsend 01 1 1\nsend 01 x\nsend x 1\nsend 01  1\nsend -- 1\nsend " + strings.Repeat("1", 600) + " " + strings.Repeat("1", 601) + "\nsignal", "ok", "1", "no", "no", "no", "no", "no", "no", "no", "1"},
		{"cell a:0:2:3;b:10:3:2\nsend 11 1\nhear a 2\nhear b 1\nhear b 3\nhear a 0\nsignal", "ok", "-1 1 -1 1", "00", "1", "100", "-", "-1 1 -1 1"}, {"cell a:0:6:3\nhear a 2", "ok", "00"}, {"cell a:0:6:3\nhear a -1\nhear a 601\nhear b 1\nhear - 1\nhear  1\nhear a x\nhear a \nhear a 01\nhear A 1", "ok", "no", "no", "no", "no", "no", "no", "no", "no", "no"}, {"hear a 1", "no"}, {"hear", "what"}, {"hear ", "what"}, {"hear a", "what"}, {"hear a 1 1", "what"}, {"hear a  1", "what"},
		{"spread 01 1\nadmit a 0 1\nhear a 3", "-1 1", "a:-:1:1", "100"}, {"admit a 0 1\nsend 10\nadmit b 0 1\nrelease a\nhear a 2\nadmit b 0 2\nhear b 2", "a:-:1:1", "-1 1", "no", "-", "no", "b:-:1:2", "10"},
		{"forget", "ok"}, {"register 8 29 77\nspread 01 1\nadmit a 1 1\nforget\nregister\nsignal\ncell\nperiod", "ok", "-1 1", "a:0:1:1", "ok", "3 3 1", "-", "-", "7 0"}, {"forget ", "what"}, {"jump 1\nforget x\nregister", "3 3 4", "what", "3 3 4"}, {"forget\nforget\njump 1\nforget\nbits 3", "ok", "ok", "3 3 4", "ok", "100"},
	} {
		wantOutput(t, c[0], c[1:]...)
	}
}

// TestOtherLines: words that are none, other letters, and bytes that are no spaces and no newlines.
func TestOtherLines(t *testing.T) {
	for _, line := range []string{
		"x", "foo", " ", "  ", "   ", " register", " bits 7", "  bits 7", "Register", "REGISTER", "registe", "registers", "register\t3 3 1", "bits\t7", "bits7", "bits-7", "bits\r", "period\r", "period\x00", "\x00", "\xff", "\u00a0", "signal\u00a0", "cell\t", "forget\r", "send\t01", "ok", "no", "what", "full", "long", "-", "0", "3 3 1",
		"jump", "bits", "hops", "shortest", "maximal", "cross", "peak", "gold", "walsh", "tree", "spread", "gain", "despread", "receive", "frame", "find", "protect", "open", "admit", "release", "power", "send", "hear", "period ", "signal ", "forget ", "period  ", "signal -", "forget -",
	} {
		wantOutput(t, line, "what")
		wantOutput(t, "jump 1\nspread 1 1\nadmit a 0 1\n"+line+"\nregister\nsignal\ncell", "3 3 4", "1", "a:-:1:1", "what", "3 3 4", "1", "a:-:1:1")
	}
	for word, kinds := range scriptFields {
		if kinds != "*" {
			for count := range 8 {
				if count != len(kinds) {
					wantOutput(t, word+strings.Repeat(" ", count), "what")
					wantOutput(t, word+strings.Repeat(" 1", count), "what")
				}
			}
		}
	}
}

// TestFieldsThatAreNoNumbers puts each odd field in the place of each number of each line.
func TestFieldsThatAreNoNumbers(t *testing.T) {
	likely := map[string]string{"jump": "jump 1", "bits": "bits 7", "hops": "hops 8 3", "maximal": "maximal 3", "cross": "cross 110 011 1", "gold": "gold 3 3 5 0", "walsh": "walsh 2 3", "gain": "gain 2", "despread": "despread 01 2", "receive": "receive 01 0 2", "protect": "protect 1 3", "open": "open " + protected("1", 3, firstModel.register) + " 3", "admit": "admit b 6 1", "power": "power 3", "hear": "hear a 2"}
	for word, kinds := range scriptFields {
		for i, kind := range kinds {
			if kind != 'n' {
				continue
			}
			fields := strings.Split(likely[word], " ")
			if output := impl.RunScript("cell a:0:6:3\n" + likely[word]); output == "ok\nno\n" || output == "ok\nwhat\n" {
				t.Errorf("the line %q has the output %q", likely[word], output)
			}
			for _, odd := range oddFields {
				if numberPattern.MatchString(odd) || strings.Contains(odd, " ") {
					continue
				}
				fields[i+1] = odd
				wantOutput(t, "cell a:0:6:3\n"+strings.Join(fields, " ")+"\ncell\nregister\nsignal", "ok", "no", "a:0:6:3", "3 3 1", "-")
			}
		}
	}
}

func TestEmptyLines(t *testing.T) {
	for _, c := range [][]string{
		{""}, {"\n"}, {"\n\n"}, {"\n\n\n"}, {"period", "7 0"}, {"period\n", "7 0"}, {"period\n\n", "7 0"}, {"\nperiod", "7 0"}, {"\n\nperiod\n\n\nbits 1\n\n", "7 0", "1"}, {"bits 1\nperiod", "1", "7 0"}, {"bits 1\n \nperiod", "1", "what", "7 0"}, {"\r\n", "what"}, {"bits 1\x00\nperiod", "no", "7 0"},
		{strings.Repeat("\n", 20000)}, {strings.Repeat("\n", 20001), "long"}, {strings.Repeat("\n", 99) + "period", "7 0"}, {strings.Repeat("\n", 99) + "period\n\n\n", "7 0"}, {strings.Repeat("\n", 100) + "period", "full"}, {strings.Repeat("\n", 100)}, {strings.Repeat("\n", 300) + "period\n\nperiod", "full"},
	} {
		wantOutput(t, c[0], c[1:]...)
	}
}

func TestScriptLimits(t *testing.T) {
	wantOutput(t, strings.Repeat("x", 19999), "what")
	wantOutput(t, strings.Repeat("x", 20000), "what")
	wantOutput(t, strings.Repeat("x", 20001), "long")
	wantOutput(t, strings.Repeat("x", 1000000), "long")
	wantOutput(t, "period\n"+strings.Repeat("\n", 19993), "7 0")
	wantOutput(t, "period\n"+strings.Repeat("\n", 19994), "long")
	for count := 97; count <= 103; count++ {
		want := slices.Repeat([]string{"7 0"}, min(count, 100))
		script := strings.Repeat("period\n", count)
		if count > 100 {
			want = append(want, "full")
		}
		wantOutput(t, script, want...)
		wantOutput(t, script+"\n\n\n", want...)
		wantOutput(t, strings.TrimSuffix(script, "\n"), want...)
		// Empty lines count, too, and so do unknown ones and those that are not executed.
		wantOutput(t, strings.Repeat("\n", 100-min(count, 100))+script, want...)
		if count <= 100 {
			wantOutput(t, strings.Repeat("\n", 101-count)+script, append(slices.Repeat([]string{"7 0"}, count-1), "full")...)
			wantOutput(t, script+strings.Repeat("x\n", 100-count)+"bits 1\nbits 2", append(append(want, slices.Repeat([]string{"what"}, 100-count)...), "full")...)
			wantOutput(t, script+strings.Repeat("bits x\n", 100-count)+"\n\nbits 2", append(append(want, slices.Repeat([]string{"no"}, 100-count)...), "full")...)
		}
	}
}

// TestOutputLimit fills the output with lines of 601 bytes, and then up to any length around MaxOutput.
func TestOutputLimit(t *testing.T) {
	line := func(n int) string { return orDash(strings.Repeat("1001011", 86)[:n]) }
	for bytes := 39990; bytes <= 40010; bytes++ {
		last := bytes - 66*601 - 1
		script := strings.Repeat("bits 600\n", 66) + fmt.Sprintf("bits %d\n", last)
		want := append(slices.Repeat([]string{line(600)}, 66), line(last))
		wantOutput(t, script, want...)
		wantOutput(t, script+"\n\n\n", want...)
		for _, next := range []string{"period", "x", "bits x", "forget"} {
			after := append(slices.Clone(want), "full")
			if bytes <= 40000 {
				after[len(want)] = map[string]string{"period": "7 0", "x": "what", "bits x": "no", "forget": "ok"}[next]
			}
			wantOutput(t, script+next, after...)
			wantOutput(t, script+"\n\n"+next+"\n\n", after...)
		}
	}
	// A line that is executed is written whole, however long it is.
	filled := strings.Repeat("bits 600\n", 66) + "bits 333\nspread " + strings.Repeat("1", 300) + " 0101010101\nregister"
	want := append(slices.Repeat([]string{line(600)}, 66), line(333), numbersLine(spread(strings.Repeat("1", 300), "0101010101")), "full")
	wantOutput(t, filled, want...)
}

// TestScriptsKeepNothing: a script does not know of those before it.
func TestScriptsKeepNothing(t *testing.T) {
	change := "register 8 29 77\nspread 01 1\nadmit a 1 1"
	for range 3 {
		wantOutput(t, change, "ok", "-1 1", "a:0:1:1")
		wantOutput(t, "register\nsignal\ncell\nperiod", "3 3 1", "-", "-", "7 0")
	}
	first, second := impl.RunScript(change), impl.RunScript(change)
	if overlap(first, second) || overlap(first, change) {
		t.Error("RunScript: a result shares memory")
	}
	for script := range strings.SplitSeq("register|bits 0|find "+framed("1")+"|cell|frame -|tree -", "|") {
		first, second := impl.RunScript(script), impl.RunScript(script)
		if overlap(first, second) || overlap(first, script) {
			t.Errorf("RunScript(%q): a result shares memory", script)
		}
	}
}

func TestExampleOfScripts(t *testing.T) {
	script := strings.Split("register 3 3 1|bits 7|period|jump 3|hops 8 3|shortest 1001011100|maximal 3|cross 110 011 1|peak 1001011 0010111|gold 3 3 5 0|walsh 2 3|tree 11|spread 01 0101|despread 0101 2|receive 0101 0 2|frame 1|find 00111010000000001100001001|admit a 1 3|admit b 2 2|power 2|power 2|send 01 1|hear a 2|hear b 1|release a|foo", "|")
	output := strings.Split("ok|1001011|7 0|3 3 5|5 3 2|3 3 1|3 5|3|6|0000101|0110|0110|1 -1 1 -1 -1 1 -1 1|4 -4|01|111010000000001100001001|1|a:0:1:3|a:0:1:3;b:10:1:2|a:0:2:3;b:10:2:2|a:0:3:3;b:10:3:2|0 2 -2 0|01|1|b:10:3:2|what", "|")
	for count := range len(script) + 1 {
		wantOutput(t, strings.Join(script[:count], "\n"), output[:count]...)
		wantOutput(t, strings.Join(script[:count], "\n")+"\n", output[:count]...)
		wantOutput(t, strings.Join(script[:count], "\n\n"), output[:count]...)
	}
}
