package tests

import (
	"math"
	"reflect"
	"slices"
	"strings"
	"testing"

	"loop.example/keyswitches/impl"
)

// read returns the switch of a text that the test knows to be one.
func read(t *testing.T, text string) impl.Switch {
	t.Helper()
	s, ok := impl.ParseSwitch(text)
	if !ok {
		t.Fatalf("ParseSwitch(%q) = false", text)
	}
	return s
}

// only returns a switch with a single case.
func only(low, high int, target string, weight int) impl.Switch {
	return impl.Switch{Cases: []impl.Case{{Low: low, High: high, Target: target, Weight: weight}}}
}

// both returns a switch with two cases.
func both(a, b impl.Case) impl.Switch {
	return impl.Switch{Cases: []impl.Case{a, b}}
}

// singles returns a switch with as many cases of one key.
func singles(n int) impl.Switch {
	var s impl.Switch
	for key := range n {
		s.Cases = append(s.Cases, impl.Case{Low: key, High: key, Target: "a", Weight: 1})
	}
	return s
}

// validSwitches returns switches and their texts.
func validSwitches() map[string]impl.Switch {
	return map[string]impl.Switch{
		";0":          {},
		";99":         {Cases: []impl.Case{}, Rest: 99},
		"0-31h99;99":  {Cases: []impl.Case{{Low: 0, High: 31, Target: "h", Weight: 99}}, Rest: 99},
		"0a0;0":       only(0, 0, "a", 0),
		"31h10;0":     only(31, 31, "h", 10),
		"9-10d9;0":    only(9, 10, "d", 9),
		"0-3a5,7b2;1": {Cases: []impl.Case{{Low: 0, High: 3, Target: "a", Weight: 5}, {Low: 7, High: 7, Target: "b", Weight: 2}}, Rest: 1},
		"0-15b1,16-31a1;0": both(
			impl.Case{Low: 0, High: 15, Target: "b", Weight: 1}, impl.Case{Low: 16, High: 31, Target: "a", Weight: 1}),
		"4c2,5c2;0": both(
			impl.Case{Low: 4, High: 4, Target: "c", Weight: 2}, impl.Case{Low: 5, High: 5, Target: "c", Weight: 2}),
		"0a1,1a1,2a1,3a1,4a1,5a1,6a1,7a1;0": singles(impl.MaxCases),
	}
}

// wrongSwitches returns switches that are not valid, by what is wrong with them.
func wrongSwitches() map[string]impl.Switch {
	a := impl.Case{Low: 2, High: 5, Target: "a", Weight: 1}
	return map[string]impl.Switch{
		"rest below":         {Rest: -1},
		"rest above":         {Rest: impl.MaxWeight + 1},
		"weight below":       only(0, 1, "a", -1),
		"weight above":       only(0, 1, "a", impl.MaxWeight+1),
		"low below":          only(-1, 1, "a", 1),
		"low far below":      only(math.MinInt, 1, "a", 1),
		"high above":         only(0, impl.MaxKey+1, "a", 1),
		"high far above":     only(0, math.MaxInt, "a", 1),
		"both above":         only(32, 32, "a", 1),
		"both below":         only(-1, -1, "a", 1),
		"no keys":            only(3, 2, "a", 1),
		"no target":          only(0, 1, "", 1),
		"target of the rest": only(0, 1, "z", 1),
		"target behind":      only(0, 1, "i", 1),
		"target ahead":       only(0, 1, "`", 1),
		"great target":       only(0, 1, "A", 1),
		"two targets":        only(0, 1, "ab", 1),
		"target with space":  only(0, 1, "a ", 1),
		"target of two":      only(0, 1, "\u0161", 1), // its low byte is that of a
		"byte no letter":     only(0, 1, "\xe1", 1),
		"nine cases":         singles(impl.MaxCases + 1),
		"many cases":         singles(5000),
		"descending":         both(a, impl.Case{Low: 0, High: 1, Target: "b", Weight: 1}),
		"twice":              both(a, a),
		"one key in two":     both(a, impl.Case{Low: 5, High: 9, Target: "b", Weight: 1}),
		"one within another": both(a, impl.Case{Low: 3, High: 4, Target: "b", Weight: 1}),
		"low in two":         both(a, impl.Case{Low: 2, High: 9, Target: "b", Weight: 1}),
		"second wrong":       both(a, impl.Case{Low: 9, High: 8, Target: "b", Weight: 1}),
		"long overlap": {Cases: []impl.Case{
			{Low: 0, High: 9, Target: "a"}, {Low: 10, High: 20, Target: "b"}, {Low: 15, High: 30, Target: "c"}}},
		"last descending": {Cases: []impl.Case{
			{Low: 0, High: 1, Target: "a"}, {Low: 8, High: 9, Target: "b"}, {Low: 4, High: 5, Target: "c"}}},
	}
}

func TestSwitchesAreValidAndFormatted(t *testing.T) {
	for text, s := range validSwitches() {
		if !impl.SwitchValid(s) {
			t.Errorf("SwitchValid of %q = false", text)
		}
		if got := impl.FormatSwitch(s); got != text {
			t.Errorf("FormatSwitch = %q, want %q", got, text)
		}
	}
}

func TestTextsAreParsed(t *testing.T) {
	for text, want := range validSwitches() {
		got, ok := impl.ParseSwitch(text)
		if !ok || got.Rest != want.Rest || !slices.Equal(got.Cases, want.Cases) {
			t.Errorf("ParseSwitch(%q) = %v, %v, want %v", text, got, ok, want)
		}
	}
}

func TestEveryRangeAndWeightIsReadBack(t *testing.T) {
	for low := range impl.MaxKey + 1 {
		for high := low; high <= impl.MaxKey; high++ {
			weight := (low*31 + high) % (impl.MaxWeight + 1)
			s := only(low, high, string(rune('a'+high%8)), weight)
			s.Rest = impl.MaxWeight - weight
			got, ok := impl.ParseSwitch(impl.FormatSwitch(s))
			if !ok || !reflect.DeepEqual(got, s) {
				t.Fatalf("ParseSwitch of %v = %v, %v", s, got, ok)
			}
		}
	}
}

func TestNoSwitchOfOtherTexts(t *testing.T) {
	texts := []string{
		"", ";", ",;0", "0a1", "0a1,7b2", "0a1;", "0a1,;0", ",0a1;0", "0a1,,7b2;0", "0a1;0;0", "0a1;0,7b2", "0a1;1;", ";0;", "0a1;x",
		"0a;0", "a1;0", "01;0", "0;0", "-a1;0", "0-a1;0", "-1a1;0", "0--1a1;0", "0-1-2a1;0", "0-1,a1;0", "0-1a1-2;0",
		"3-3a1;0", "3-1a1;0", "32a1;0", "0-32a1;0", "31-32a1;0",
		"0i1;0", "0z1;0", "0A1;0", "0`1;0", "0aa1;0", "0ab1;0", "0\u01611;0", "0\xe11;0", "0-31;0",
		"0a100;0", "0a1;100", "0a-1;0", "0a1;-1", "0a1;-0", "0a-0;0", "0a+1;0", "+0a1;0", "0a1;+1",
		"00a1;0", "01a1;0", "0-03a1;0", "0a01;0", "0a00;0", "0a1;00", "0a1;01", ";00",
		" 0a1;0", "0a1;0 ", "0a1; 0", "0 a1;0", "0a 1;0", "0a1 ;0", "0a1, 7b2;0", "0a1;0\n", "\x000a1;0", "0a1;0\x00",
		"1a1,0b1;0", "0-3a1,3b1;0", "0-9a1,2-3b1;0", "0a1,0a1;0", "7b2,0-3a5;1",
		"0a1,1a1,2a1,3a1,4a1,5a1,6a1,7a1,8a1;0", "0a1,1a1,2a1,3a1,4a1,5a1,6a1,7a1,;0",
		"18446744073709551616a1;0", "0a18446744073709551617;0", "0a1;18446744073709551616", "4294967296a1;0", "0a4294967297;0",
		"0a1:0", "0a1.7b2;0", "0a1", "0x1a1;0", "1_0a1;0", "1e1a1;0", "\uff10a1;0", "0a\uff11;0",
		strings.Repeat("0a1,", 100000) + "1a1;0", strings.Repeat("9", 100000) + "a1;0", strings.Repeat(";", 1000),
	}
	for _, text := range texts {
		s, ok := impl.ParseSwitch(text)
		if ok || len(s.Cases) != 0 || s.Rest != 0 {
			t.Errorf("ParseSwitch(%.60q) = %v, %v", text, s, ok)
		}
	}
}

func TestTextsWithOneByteChanged(t *testing.T) {
	const text = "0-3a5,17b29;10"
	for i := range len(text) {
		for b := range 256 {
			for _, changed := range []string{text[:i] + string([]byte{byte(b)}) + text[i+1:], text[:i] + string([]byte{byte(b)}) + text[i:], text[:i] + text[i+1:]} {
				s, ok := impl.ParseSwitch(changed)
				if ok && (!impl.SwitchValid(s) || impl.FormatSwitch(s) != changed) {
					t.Fatalf("ParseSwitch(%q) = %v", changed, s)
				}
				if !ok && (len(s.Cases) != 0 || s.Rest != 0) {
					t.Fatalf("ParseSwitch(%q) = %v, false", changed, s)
				}
			}
		}
	}
}

func TestEveryLetterThatIsATarget(t *testing.T) {
	for b := range 256 {
		target := string([]byte{byte(b)})
		want := strings.Contains("abcdefgh", target)
		if got := impl.SwitchValid(only(0, 0, target, 0)); got != want {
			t.Errorf("SwitchValid with the target %q = %v", target, got)
		}
		if _, got := impl.ParseSwitch("0" + target + "0;0"); got != want {
			t.Errorf("ParseSwitch with the target %q = %v", target, got)
		}
	}
}

func TestSwitchesThatAreNotValid(t *testing.T) {
	for name, s := range wrongSwitches() {
		if impl.SwitchValid(s) {
			t.Errorf("%s: SwitchValid = true", name)
		}
		if got := impl.FormatSwitch(s); got != "" {
			t.Errorf("%s: FormatSwitch = %q", name, got)
		}
		for _, key := range []int{-1, 0, 2, 3, 31, 32} {
			if got, ok := impl.TargetOf(s, key); got != "" || ok {
				t.Errorf("%s: TargetOf(%d) = %q, %v", name, key, got, ok)
			}
			if got := impl.CaseOf(s, key); got != -1 {
				t.Errorf("%s: CaseOf(%d) = %d", name, key, got)
			}
		}
		if got, ok := impl.TargetsOf(s); got != "" || ok {
			t.Errorf("%s: TargetsOf = %q, %v", name, got, ok)
		}
		if got := impl.CountKeys(s); got != -1 {
			t.Errorf("%s: CountKeys = %d", name, got)
		}
		if got := impl.TotalWeight(s); got != -1 {
			t.Errorf("%s: TotalWeight = %d", name, got)
		}
	}
}

func TestKeysAreLedToTargets(t *testing.T) {
	// For each switch, the target and the digit of the case of each key, . for none.
	wants := []struct{ text, targets, cases string }{
		{";5", "zzzzzzzzzzzzzzzzzzzzzzzzzzzzzzzz", "................................"},
		{"0-3a5,7b2;1", "aaaazzzbzzzzzzzzzzzzzzzzzzzzzzzz", "0000...1........................"},
		{"0-31h1;0", "hhhhhhhhhhhhhhhhhhhhhhhhhhhhhhhh", "00000000000000000000000000000000"},
		{"0-15b1,16-31a1;0", "bbbbbbbbbbbbbbbbaaaaaaaaaaaaaaaa", "00000000000000001111111111111111"},
		{"0c1,31c1;0", "czzzzzzzzzzzzzzzzzzzzzzzzzzzzzzc", "0..............................1"},
		{"4-5d0,6d0,8g0,9-30a0;0", "zzzzdddzgaaaaaaaaaaaaaaaaaaaaaaz", "....001.23333333333333333333333."},
		{"1a1,3b1,5c1,7d1,9e1,11f1,13g1,15-16h1;0", "zazbzczdzezfzgzhhzzzzzzzzzzzzzzz", ".0.1.2.3.4.5.6.77..............."},
	}
	for _, want := range wants {
		s := read(t, want.text)
		for key := range impl.MaxKey + 1 {
			if got, ok := impl.TargetOf(s, key); got != want.targets[key:key+1] || !ok {
				t.Errorf("TargetOf(%q, %d) = %q, %v", want.text, key, got, ok)
			}
			index := strings.IndexByte("01234567", want.cases[key])
			if got := impl.CaseOf(s, key); got != index {
				t.Errorf("CaseOf(%q, %d) = %d, want %d", want.text, key, got, index)
			}
		}
	}
}

func TestNumbersThatAreNoKeys(t *testing.T) {
	for _, text := range []string{";5", "0-3a5,7b2;1", "0-31h1;0"} {
		s := read(t, text)
		for _, key := range []int{math.MinInt, -32, -1, 32, 33, 256, 1 << 32, math.MaxInt} {
			if got, ok := impl.TargetOf(s, key); got != "" || ok {
				t.Errorf("TargetOf(%q, %d) = %q, %v", text, key, got, ok)
			}
			if got := impl.CaseOf(s, key); got != -1 {
				t.Errorf("CaseOf(%q, %d) = %d", text, key, got)
			}
		}
	}
}

func TestTargetsAndSums(t *testing.T) {
	wants := []struct {
		text, targets string
		keys, weight  int
	}{
		{";0", "z", 0, 0},
		{";7", "z", 0, 7},
		{"0-3a5,7b2;1", "abz", 5, 8},
		{"0-31h99;99", "h", 32, 198},
		{"0-30h1;0", "hz", 31, 1},
		{"1-31h1;0", "hz", 31, 1},
		{"0-15b1,16-31a1;0", "ab", 32, 2},
		{"0-15b1,17-31a1;0", "abz", 31, 2},
		{"0c1,2a1,4c1,6b1,8a1;3", "abcz", 5, 8},
		{"0-7h1,8-15c2,16-23h3,24-31c4;5", "ch", 32, 15},
		{"0h99,1g99,2f99,3e99,4d99,5c99,6b99,7a99;99", "abcdefghz", 8, 891},
		{"0-24h0,25g0,26f0,27e0,28d0,29c0,30b0,31a0;0", "abcdefgh", 32, 0},
	}
	for _, want := range wants {
		s := read(t, want.text)
		if got, ok := impl.TargetsOf(s); got != want.targets || !ok {
			t.Errorf("TargetsOf(%q) = %q, %v, want %q", want.text, got, ok, want.targets)
		}
		if got := impl.CountKeys(s); got != want.keys {
			t.Errorf("CountKeys(%q) = %d, want %d", want.text, got, want.keys)
		}
		if got := impl.TotalWeight(s); got != want.weight {
			t.Errorf("TotalWeight(%q) = %d, want %d", want.text, got, want.weight)
		}
	}
}

// TestAllPairsOfRanges holds two cases of any ranges against their keys one by one.
func TestAllPairsOfRanges(t *testing.T) {
	bounds := []int{-1, 0, 1, 2, 3, 4, 30, 31, 32}
	for _, low := range bounds {
		for _, high := range bounds {
			for _, from := range bounds {
				for _, to := range bounds {
					checkPair(t, impl.Case{Low: low, High: high, Target: "b", Weight: 3}, impl.Case{Low: from, High: to, Target: "a", Weight: 4})
				}
			}
		}
	}
}

func checkPair(t *testing.T, a, b impl.Case) {
	t.Helper()
	s := both(a, b)
	valid := 0 <= a.Low && a.Low <= a.High && a.High < b.Low && b.Low <= b.High && b.High <= impl.MaxKey
	if impl.SwitchValid(s) != valid {
		t.Fatalf("SwitchValid(%v) = %v", s, !valid)
	}
	count, targets := 0, map[string]bool{}
	for key := range impl.MaxKey + 1 {
		want, index := "z", -1
		switch {
		case a.Low <= key && key <= a.High:
			want, index = "b", 0
		case b.Low <= key && key <= b.High:
			want, index = "a", 1
		}
		if !valid {
			want, index = "", -1
		}
		if index >= 0 {
			count++
		}
		targets[want] = true
		if got, ok := impl.TargetOf(s, key); got != want || ok != valid || impl.CaseOf(s, key) != index {
			t.Fatalf("TargetOf(%v, %d) = %q, %v, CaseOf = %d", s, key, got, ok, impl.CaseOf(s, key))
		}
	}
	if valid && impl.CountKeys(s) != count {
		t.Fatalf("CountKeys(%v) = %d, want %d", s, impl.CountKeys(s), count)
	}
	all := ""
	for _, target := range []string{"a", "b", "z"} {
		if targets[target] {
			all += target
		}
	}
	if got, ok := impl.TargetsOf(s); got != all || ok != valid {
		t.Fatalf("TargetsOf(%v) = %q, %v, want %q", s, got, ok, all)
	}
}

// useAll calls every function of the chapter that takes a switch.
func useAll(s impl.Switch) {
	impl.SwitchValid(s)
	impl.FormatSwitch(s)
	impl.TargetOf(s, 0)
	impl.CaseOf(s, 0)
	impl.TargetsOf(s)
	impl.CountKeys(s)
	impl.TotalWeight(s)
}

// checkStays reports a use of a switch that changes its cases, or memory behind them.
func checkStays(t *testing.T, s impl.Switch, use func(s impl.Switch)) {
	t.Helper()
	mark := impl.Case{Low: 21, High: 22, Target: "g", Weight: 23}
	memory := append(slices.Clone(s.Cases), mark, mark)
	before := slices.Clone(memory)
	use(impl.Switch{Cases: memory[:len(s.Cases)], Rest: s.Rest})
	if !slices.Equal(memory, before) {
		t.Errorf("the cases have become %v, were %v", memory, before)
	}
}

func TestArgumentsStayAsTheyAre(t *testing.T) {
	checkStays(t, read(t, "0-3a5,7b2;1"), useAll)
	checkStays(t, both(impl.Case{Low: 9, High: 9, Target: "a", Weight: 1}, impl.Case{Low: 0, High: 1, Target: "b", Weight: 1}), useAll)
}

func TestResultsShareNoMemory(t *testing.T) {
	const text = "0-3a5,7b2;1"
	a, b := read(t, text), read(t, text)
	one, two := impl.Case{Low: 9, High: 9, Target: "c"}, impl.Case{Low: 8, High: 8, Target: "d"}
	longer, other := append(a.Cases, one), append(b.Cases, two)
	if longer[2] != one || other[2] != two {
		t.Errorf("results share memory behind their length: %v, %v", longer, other)
	}
	a.Cases[0].Target = "h"
	if got := impl.FormatSwitch(b); got != text {
		t.Errorf("a result has become %q", got)
	}
	if got := impl.FormatSwitch(read(t, text)); got != text {
		t.Errorf("ParseSwitch keeps %q", got)
	}
}
