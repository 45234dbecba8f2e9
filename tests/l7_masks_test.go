package tests

import (
	"math"
	"slices"
	"strconv"
	"strings"
	"testing"

	"loop.example/keyswitches/impl"
)

// allKeys is the word that has all keys.
const allKeys = 1<<32 - 1

// letters are the targets that words may be asked for.
const letters = "abcdefghz"

func TestWordsOfTargets(t *testing.T) {
	wants := []struct {
		text   string
		target string
		mask   string
		weight int
	}{
		{"0-3a5,7b2;1", "a", "0000000f", 5},
		{"0-3a5,7b2;1", "b", "00000080", 2},
		{"0-3a5,7b2;1", "z", "ffffff70", 1},
		{"0-3a5,7b2;1", "c", "00000000", 0},
		{"0-3a5,7b2;1", "h", "00000000", 0},
		// The last bit, and the first one.
		{"31h9;3", "h", "80000000", 9},
		{"31h9;3", "z", "7fffffff", 3},
		{"0a9;3", "a", "00000001", 9},
		{"0a9;3", "z", "fffffffe", 3},
		{"30-31c1;0", "c", "c0000000", 1},
		// Targets of several cases, which weigh more than one of them may.
		{"0-3a5,7b2,9a4;1", "a", "0000020f", 9},
		{"0a99,2a99,4a99,31a99;99", "a", "80000015", 396},
		{"0a99,2a99,4a99,31a99;99", "z", "7fffffea", 99},
		{"4c2,5c2,6d1,7c3;0", "c", "000000b0", 7},
		{"4c2,5c2,6d1,7c3;0", "d", "00000040", 1},
		// No cases, and no gaps: Rest is what the target z weighs all the same.
		{";7", "z", "ffffffff", 7},
		{";7", "a", "00000000", 0},
		{"0-31d8;6", "d", "ffffffff", 8},
		{"0-31d8;6", "z", "00000000", 6},
		// Weights that are 0.
		{"8-23e0;0", "e", "00ffff00", 0},
		{"8-23e0;0", "z", "ff0000ff", 0},
	}
	for _, want := range wants {
		s := read(t, want.text)
		if mask, ok := impl.MaskOf(s, want.target); impl.FormatMask(mask) != want.mask || !ok {
			t.Errorf("MaskOf(%q, %q) = %x, %v, want %s", want.text, want.target, mask, ok, want.mask)
		}
		if got := impl.MaskWeight(s, want.target); got != want.weight {
			t.Errorf("MaskWeight(%q, %q) = %d, want %d", want.text, want.target, got, want.weight)
		}
	}
}

// wordByHand returns the word of a target, where the targets of all keys stand one behind the other.
func wordByHand(all string, target byte) int {
	mask, bit := 0, 1
	for key := range len(all) {
		if all[key] == target {
			mask += bit
		}
		bit *= 2
	}
	return mask
}

// wordsOf returns the words of some targets.
func wordsOf(s impl.Switch, targets string) []int {
	var masks []int
	for _, target := range strings.Split(targets, "") {
		mask, _ := impl.MaskOf(s, target)
		masks = append(masks, mask)
	}
	return masks
}

// TestWordsHeldAgainstKeys holds the words of many switches against the targets of keys one by one.
func TestWordsHeldAgainstKeys(t *testing.T) {
	for _, s := range manySwitches(3000) {
		text, all := impl.FormatSwitch(s), targetsByKey(s)
		keys, weights := 0, 0
		for i, mask := range wordsOf(s, letters) {
			if want := wordByHand(all, letters[i]); mask != want {
				t.Fatalf("MaskOf(%q, %q) = %x, want %x", text, letters[i], mask, want)
			}
			keys += mask
			weights += impl.MaskWeight(s, letters[i:i+1])
		}
		if keys != allKeys || weights != impl.TotalWeight(s) || !impl.MasksFit(wordsOf(s, letters)) {
			t.Fatalf("words of %q have the keys %x, weigh %d", text, keys, weights)
		}
	}
}

// targetsThatAreNone returns texts that are no target.
func targetsThatAreNone() []string {
	list := []string{"", "ab", "aa", "zz", "az", "a ", " a", "a\x00", "\u0161", "\u00e1", "abcdefgh", strings.Repeat("a", 1<<16)}
	for b := range 256 {
		if strings.IndexByte(letters, byte(b)) < 0 {
			list = append(list, string([]byte{byte(b)}))
		}
	}
	return list
}

// checkNoTarget reports a target that is none but has a word, or the word of a switch that is not valid.
func checkNoTarget(t *testing.T, name string, s impl.Switch, target string) {
	t.Helper()
	if mask, ok := impl.MaskOf(s, target); mask != 0 || ok {
		t.Errorf("%s: MaskOf(%q) = %x, %v", name, target, mask, ok)
	}
	if got := impl.MaskWeight(s, target); got != -1 {
		t.Errorf("%s: MaskWeight(%q) = %d", name, target, got)
	}
}

func TestTargetsThatAreNone(t *testing.T) {
	for text, s := range validSwitches() {
		for _, target := range targetsThatAreNone() {
			checkNoTarget(t, text, s, target)
		}
		for i, mask := range wordsOf(s, letters) {
			if _, ok := impl.MaskOf(s, letters[i:i+1]); !ok || mask < 0 || impl.MaskWeight(s, letters[i:i+1]) < 0 {
				t.Errorf("%s: no word of %q", text, letters[i])
			}
		}
	}
}

func TestWordsLeadKeysToTargets(t *testing.T) {
	wants := []struct {
		text   string
		order  string
		key    int
		target string
		tested int
	}{
		{"0-3a5,7b2;1", "ab", 0, "a", 1},
		{"0-3a5,7b2;1", "ab", 3, "a", 1},
		{"0-3a5,7b2;1", "ba", 3, "a", 2},
		{"0-3a5,7b2;1", "ab", 7, "b", 2},
		{"0-3a5,7b2;1", "ba", 7, "b", 1},
		{"0-3a5,7b2;1", "ab", 4, "z", 2},
		{"0-3a5,7b2;1", "ba", 31, "z", 2},
		// The last bit.
		{"31h9;3", "h", 31, "h", 1},
		{"31h9;3", "h", 30, "z", 1},
		{"0-30a9,31h1;3", "ah", 31, "h", 2},
		// Targets of several cases are tested once.
		{"0-3a5,7b2,9a4;1", "ab", 9, "a", 1},
		{"0-3a5,7b2,9a4;1", "ba", 9, "a", 2},
		{"0-3a5,7b2,9a4;1", "ab", 8, "z", 2},
		{"0a1,2b1,4a1,6b1,8a1,10b1,12a1,14b1;0", "ba", 12, "a", 2},
		{"0a1,2b1,4a1,6b1,8a1,10b1,12a1,14b1;0", "ba", 13, "z", 2},
		// No cases are no words, and a case of all keys is one that has them.
		{";7", "", 0, "z", 0},
		{";7", "", 31, "z", 0},
		{"0-31d8;6", "d", 31, "d", 1},
		// The most words.
		{"0a1,1b1,2c1,3d1,4e1,5f1,6g1,7h1;1", "hgfedcba", 0, "a", 8},
		{"0a1,1b1,2c1,3d1,4e1,5f1,6g1,7h1;1", "hgfedcba", 7, "h", 1},
		{"0a1,1b1,2c1,3d1,4e1,5f1,6g1,7h1;1", "hgfedcba", 8, "z", 8},
	}
	for _, want := range wants {
		target, tested, ok := impl.RunMasks(read(t, want.text), want.order, want.key)
		if target != want.target || tested != want.tested || !ok {
			t.Errorf("RunMasks(%q, %q, %d) = %q, %d, %v, want %q, %d", want.text, want.order, want.key, target, tested, ok, want.target, want.tested)
		}
	}
}

func TestCostsOfOrders(t *testing.T) {
	wants := []struct {
		text  string
		order string
		cost  int
	}{
		{"0-3a5,7b2;1", "ab", 11}, // 5 + 4 + 2
		{"0-3a5,7b2;1", "ba", 14}, // 2 + 10 + 2
		{"0-3a5,7b2,9a4;1", "ab", 15},
		{"0-3a5,7b2,9a4;1", "ba", 22},
		{"31h9;3", "h", 12},
		{";7", "", 0},
		// Other keys cost the same whether there are any.
		{"0-31d8;6", "d", 14},
		{"0-15b1,16-31a1;9", "ab", 21},
		{"0a1,1b5,2c1;0", "bac", 10},
		{"0a1,1b5,2c1;0", "bca", 10},
		{"0a1,1b5,2c1;0", "abc", 14},
		{"0a0,1b0;0", "ba", 0},
		// The most of all.
		{"0a99,1b99,2c99,3d99,4e99,5f99,6g99,7h99;99", "abcdefgh", 99*36 + 99*8},
		{"0a99,1a99,2a99,3a99,4a99,5a99,6a99,7b99;99", "ba", 99 + 99*14 + 99*2},
	}
	for _, want := range wants {
		if got := impl.MasksCost(read(t, want.text), want.order); got != want.cost {
			t.Errorf("MasksCost(%q, %q) = %d, want %d", want.text, want.order, got, want.cost)
		}
	}
}

func TestBestOrdersOfWords(t *testing.T) {
	for text, want := range map[string]string{
		"0-3a5,7b2;1":     "ab",
		"0-3a2,7b5;1":     "ba",
		"0-3a5,7b2,9a4;1": "ab",
		"0a1,1b5,2c1;0":   "bac",
		// Several cases of one target weigh more than one of another.
		"0a3,1b2,2b2;0":                     "ba",
		"0a3,1b2,2b1;0":                     "ab",
		"0a99,1b60,2b60,3c98;0":             "bac",
		"0h2,1g2,2f2,3e3;9":                 "efgh",
		"0h3,1a3;0":                         "ah",
		"0h4,1a3;0":                         "ha",
		"0a0,1b0,2c1;0":                     "cab",
		"5d0,7c0,9b0,11a0;99":               "abcd",
		"0-31d8;6":                          "d",
		"31h0;0":                            "h",
		";1":                                "",
		";0":                                "",
		"0c1,2c1,4c1,6c1,8c1;0":             "c",
		"0a1,1b2,2c3,3d4,4e5;0":             "edcba",
		"0h9,1g9,2f9,3e9,4d9;5":             "defgh",
		"0b1,1a1,2b1,3a1,4c2;0":             "abc",
		"0b1,1a1,2b1,3a1,4c3;0":             "cab",
		"0b10,1a9,2c90,3d9,4e9;1":           "cbade",
		"0a1,1b1,2c1,3d1,4e1,5f1,6g1,7h1;1": "abcdefgh",
		"0a1,1b2,2c3,3d4,4e5,5f6,6g7,7h8;1": "hgfedcba",
	} {
		if got, ok := impl.BestMasks(read(t, text)); got != want || !ok {
			t.Errorf("BestMasks(%q) = %q, %v, want %q", text, got, ok, want)
		}
	}
}

// caseTargets returns the targets of all cases, each once and in the order of the alphabet.
func caseTargets(s impl.Switch) string {
	var targets []string
	for _, c := range s.Cases {
		targets = append(targets, c.Target)
	}
	slices.Sort(targets)
	return strings.Join(slices.Compact(targets), "")
}

// arranged returns letters of a text in an order.
func arranged(text string, order []int) string {
	var letters []byte
	for _, i := range order {
		letters = append(letters, text[i])
	}
	return string(letters)
}

// TestAllOrdersOfWords holds orders against what they cost when each case is gone through.
func TestAllOrdersOfWords(t *testing.T) {
	seen := map[int]int{}
	for _, s := range append(manySwitches(400), read(t, ";7"), read(t, "0a3,1b1,2c1,3d9,4e0,5f9,6g3,7h2;5")) {
		targets := caseTargets(s)
		if seen[len(targets)]++; len(targets) > 5 && seen[len(targets)] > 2 {
			continue
		}
		best, least := "", math.MaxInt
		for _, order := range ordersOf(len(targets)) {
			text, want := arranged(targets, order), s.Rest*len(targets)
			for _, c := range s.Cases {
				want += c.Weight * (strings.Index(text, c.Target) + 1)
			}
			if got := impl.MasksCost(s, text); got != want {
				t.Fatalf("MasksCost(%q, %q) = %d, want %d", impl.FormatSwitch(s), text, got, want)
			}
			if want < least {
				best, least = text, want
			}
		}
		if got, ok := impl.BestMasks(s); got != best || !ok {
			t.Fatalf("BestMasks(%q) = %q, %v, want %q", impl.FormatSwitch(s), got, ok, best)
		}
	}
	if seen[0] == 0 || seen[5] < 3 || seen[8] == 0 {
		t.Errorf("switches have so many targets: %v", seen)
	}
}

// TestRunsOfWordsHeldAgainstKeys runs orders of many switches with all keys.
func TestRunsOfWordsHeldAgainstKeys(t *testing.T) {
	for number, s := range manySwitches(2000) {
		targets, all := caseTargets(s), targetsByKey(s)
		order := arranged(targets, anyOrder(len(targets), number))
		for key := range impl.MaxKey + 1 {
			want := all[key : key+1]
			tested := strings.Index(order, want) + 1
			if want == "z" {
				tested = len(order)
			}
			if target, got, ok := impl.RunMasks(s, order, key); target != want || got != tested || !ok {
				t.Fatalf("RunMasks(%q, %q, %d) = %q, %d, %v, want %q, %d", impl.FormatSwitch(s), order, key, target, got, ok, want, tested)
			}
		}
	}
}

// checkNoOrder reports an order that a switch does not have, but that is taken.
func checkNoOrder(t *testing.T, name string, s impl.Switch, order string) {
	t.Helper()
	for _, key := range append([]int{0, 3, 7, 31}, numbersThatAreNoKeys()...) {
		if target, tested, ok := impl.RunMasks(s, order, key); target != "" || tested != 0 || ok {
			t.Errorf("%s: RunMasks(%q, %d) = %q, %d, %v", name, order, key, target, tested, ok)
		}
	}
	if got := impl.MasksCost(s, order); got != -1 {
		t.Errorf("%s: MasksCost(%q) = %d", name, order, got)
	}
}

func TestOrdersThatAreWrong(t *testing.T) {
	for text, orders := range map[string][]string{
		"0-3a5,7b2;1": {
			"", "a", "b", "aa", "bb", "ac", "ca", "az", "zb", "aab", "aba", "baa", "abb", "bab", "abc", "cab", "abz", "zab", "AB", "aB",
			"a,b", "a b", "ab ", " ab", "ab\x00", "a\xe2", "\u0161b", "abab", "abababab", "ababababa", strings.Repeat("ab", 1<<16)},
		"0-3a5,7b2,9a4;1": {"", "a", "b", "aba", "aab", "bb", "aa", "abz", "abc"},
		"31h9;3":          {"", "a", "hh", "z", "hz", "zh", "ha", "H"},
		"0-31d8;6":        {"", "dd", "z", "dz", "zd", "c", "e"},
		";7":              {"a", "z", "h", " ", "\x00", "az", "zz"},
		"0a1,1b1,2c1,3d1,4e1,5f1,6g1,7h1;1": {
			"", "abcdefg", "bcdefgh", "abcdefgg", "aacdefgh", "abcdefgz", "abcdefghz", "zabcdefgh", "abcdefgha", "abcdefghi", "abcdefghabcdefgh"},
	} {
		s := read(t, text)
		for _, order := range orders {
			checkNoOrder(t, text, s, order)
		}
		right := caseTargets(s)
		if impl.MasksCost(s, right) < 0 {
			t.Errorf("MasksCost(%q, %q) = -1", text, right)
		}
		for _, key := range numbersThatAreNoKeys() {
			if target, tested, ok := impl.RunMasks(s, right, key); target != "" || tested != 0 || ok {
				t.Errorf("RunMasks(%q, %q, %d) = %q, %d, %v", text, right, key, target, tested, ok)
			}
		}
	}
}

func TestOrdersWithOneByteChanged(t *testing.T) {
	s := read(t, "0-3a5,7b2,9c4;1")
	for place := range 3 {
		for b := range 256 {
			order := []byte("cab")
			order[place] = byte(b)
			if string(order) != "cab" {
				checkNoOrder(t, "one byte changed", s, string(order))
			}
		}
	}
}

func TestTextsOfWords(t *testing.T) {
	for mask, want := range map[int]string{
		0:           "00000000",
		1:           "00000001",
		9:           "00000009",
		10:          "0000000a",
		15:          "0000000f",
		16:          "00000010",
		0x12345678:  "12345678",
		0x90abcdef:  "90abcdef",
		0xfedcba98:  "fedcba98",
		1 << 31:     "80000000",
		1<<31 - 1:   "7fffffff",
		allKeys - 1: "fffffffe",
		allKeys:     "ffffffff",
	} {
		if got := impl.FormatMask(mask); got != want {
			t.Errorf("FormatMask(%d) = %q, want %q", mask, got, want)
		}
	}
	for place := range 8 {
		for digit := range 16 {
			want := strings.Repeat("0", 7-place) + strconv.FormatInt(int64(digit), 16) + strings.Repeat("0", place)
			if got := impl.FormatMask(digit << (4 * place)); got != want {
				t.Errorf("FormatMask(%d) = %q, want %q", digit<<(4*place), got, want)
			}
		}
	}
}

// numbersThatAreNoWords returns numbers just outside of the words, and far away.
func numbersThatAreNoWords() []int {
	return []int{math.MinInt, math.MinInt32, -1 << 32, -1<<32 + 1, -2, -1, 1 << 32, 1<<32 + 1, 1 << 33, 1<<33 - 1, 1 << 62, math.MaxInt}
}

func TestNumbersThatAreNoWords(t *testing.T) {
	for _, wrong := range numbersThatAreNoWords() {
		if got := impl.FormatMask(wrong); got != "" {
			t.Errorf("FormatMask(%d) = %q", wrong, got)
		}
		for _, masks := range [][]int{{wrong}, {0, wrong}, {wrong, 0}, {1, 2, wrong}, {wrong, 1, 2}, {wrong, wrong}} {
			checkNoFit(t, "abc"[:len(masks)], masks)
		}
	}
}

// checkNoFit reports numbers that are no words, or share a key, but are taken.
func checkNoFit(t *testing.T, targets string, masks []int) {
	t.Helper()
	if impl.MasksFit(masks) {
		t.Errorf("MasksFit(%x) = true", masks)
	}
	checkNoSwitch(t, targets, masks)
}

// checkNoSwitch reports words and targets that make no switch, but of which one is made.
func checkNoSwitch(t *testing.T, targets string, masks []int) {
	t.Helper()
	if s, ok := impl.SwitchFrom(targets, masks); len(s.Cases) != 0 || s.Rest != 0 || ok {
		t.Errorf("SwitchFrom(%q, %x) = %v, %v", targets, masks, s, ok)
	}
}

func TestWordsThatFit(t *testing.T) {
	for _, masks := range [][]int{
		nil, {}, {0}, {1}, {1, 2, 4}, {4, 1, 2}, {allKeys}, {allKeys, 0, 0}, {0, allKeys}, {1 << 31, 1<<31 - 1}, {1<<31 - 1, 1 << 31},
		{0xffff0000, 0x0000ffff}, {0x55555555, 0xaaaaaaaa}, {0, 0, 0, 0, 0, 0, 0, 0, 0, 0}, make([]int, 5000),
	} {
		if !impl.MasksFit(masks) {
			t.Errorf("MasksFit(%x) = false", masks)
		}
	}
	for _, masks := range [][]int{
		{1, 1}, {1, 3}, {3, 1}, {1, 2, 1}, {1, 2, 4, 2}, {1 << 31, 1 << 31}, {allKeys, 1 << 31}, {1 << 31, allKeys}, {allKeys, allKeys},
		{0, 1, 0, 1}, {0x55555555, 0xaaaaaaab}, {2, 0, 0, 0, 0, 0, 0, 2}, append(make([]int, 5000), 9, 8),
	} {
		checkNoFit(t, "abcdefgh"[:min(8, len(masks))], masks)
	}
	for one := range 32 {
		for two := range 32 {
			masks := []int{1 << one, 0, 1 << two}
			if got := impl.MasksFit(masks); got != (one != two) {
				t.Errorf("MasksFit(%x) = %v", masks, got)
			}
		}
	}
}

func TestSwitchesOfWords(t *testing.T) {
	wants := []struct {
		targets string
		masks   []int
		text    string
	}{
		{"ba", []int{15, 128 + 512}, "0-3b0,7a0,9a0;0"},
		{"ab", []int{15, 128}, "0-3a0,7b0;0"},
		// No words, and words without keys.
		{"", nil, ";0"},
		{"", []int{}, ";0"},
		{"a", []int{0}, ";0"},
		{"hgfedcba", []int{0, 0, 0, 0, 0, 0, 0, 0}, ";0"},
		{"abc", []int{0, 6, 0}, "1-2b0;0"},
		// The first bit, the last one, and all of them.
		{"c", []int{1}, "0c0;0"},
		{"c", []int{1 << 31}, "31c0;0"},
		{"c", []int{3 << 30}, "30-31c0;0"},
		{"c", []int{1<<31 + 1}, "0c0,31c0;0"},
		{"c", []int{1<<31 - 1}, "0-30c0;0"},
		{"c", []int{allKeys - 1}, "1-31c0;0"},
		{"c", []int{allKeys}, "0-31c0;0"},
		// Words that lie side by side, or one within another.
		{"ba", []int{0xffff, 0xffff0000}, "0-15b0,16-31a0;0"},
		{"ba", []int{0xffff0000, 0xffff}, "0-15a0,16-31b0;0"},
		{"ba", []int{0xff0000ff, 0x00ffff00}, "0-7b0,8-23a0,24-31b0;0"},
		{"dh", []int{5, 10}, "0d0,1h0,2d0,3h0;0"},
		// As many cases as may be.
		{"h", []int{0x5555}, "0h0,2h0,4h0,6h0,8h0,10h0,12h0,14h0;0"},
		{"h", []int{0xaaaa0000}, "17h0,19h0,21h0,23h0,25h0,27h0,29h0,31h0;0"},
		{"ha", []int{0x55, 0xaa}, "0h0,1a0,2h0,3a0,4h0,5a0,6h0,7a0;0"},
		{"ha", []int{0x0f0f0f0f, 0xf0f0f0f0}, "0-3h0,4-7a0,8-11h0,12-15a0,16-19h0,20-23a0,24-27h0,28-31a0;0"},
		{"hgfedcba", []int{1, 2, 4, 8, 16, 32, 64, 128}, "0h0,1g0,2f0,3e0,4d0,5c0,6b0,7a0;0"},
		{"hgfedcba", []int{128, 64, 32, 16, 8, 4, 2, 1}, "0a0,1b0,2c0,3d0,4e0,5f0,6g0,7h0;0"},
	}
	for _, want := range wants {
		s, ok := impl.SwitchFrom(want.targets, want.masks)
		if got := impl.FormatSwitch(s); got != want.text || !ok {
			t.Errorf("SwitchFrom(%q, %x) = %q, %v, want %q", want.targets, want.masks, got, ok, want.text)
		}
	}
}

func TestMoreRangesThanCases(t *testing.T) {
	checkNoSwitch(t, "h", []int{0x15555})
	checkNoSwitch(t, "h", []int{0x55555555})
	checkNoSwitch(t, "ab", []int{1431655765, 0})
	checkNoSwitch(t, "ab", []int{0x55555555, 0xaaaaaaaa})
	checkNoSwitch(t, "ha", []int{0x155, 0xaa})
	checkNoSwitch(t, "ha", []int{0x55, 0x2aa})
	checkNoSwitch(t, "ha", []int{0x80000055, 0xaa})
	checkNoSwitch(t, "hgfedcba", []int{1, 2, 4, 8, 16, 32, 64, 128 + 512})
	checkNoSwitch(t, "hgfedcba", []int{1<<31 + 1, 2, 4, 8, 16, 32, 64, 128})
}

func TestTargetsThatFitNoWords(t *testing.T) {
	// Texts that are longer or shorter than the list of words.
	for _, targets := range []string{"", "a", "b", "abc", "abcd", "abcdefgh", "\u00e1b", "ab\x00", strings.Repeat("ab", 1<<16)} {
		checkNoSwitch(t, targets, []int{1, 2})
		checkNoSwitch(t, targets+"a", append(make([]int, len(targets)), 1, 2))
	}
	checkNoSwitch(t, "a", nil)
	checkNoSwitch(t, "", []int{0})
	checkNoSwitch(t, "", []int{1})
	checkNoSwitch(t, "abcdefgh", nil)
	// Letters that stand twice, also for words without keys.
	for _, targets := range []string{"aab", "aba", "baa", "aaa", "hgh", "zaz"} {
		checkNoSwitch(t, targets, []int{1, 2, 4})
		checkNoSwitch(t, targets, []int{0, 0, 0})
	}
	checkNoSwitch(t, "abcdefgha", []int{1, 2, 4, 8, 16, 32, 64, 128, 0})
	checkNoSwitch(t, "abcdefghz", []int{1, 2, 4, 8, 16, 32, 64, 0, 0})
	checkNoSwitch(t, strings.Repeat("a", 1<<16), make([]int, 1<<16))
	// Every byte at every place.
	for b := range 256 {
		for place := range 3 {
			targets := []byte("hgf")
			targets[place] = byte(b)
			good := 'a' <= b && b <= 'e' || string(targets) == "hgf"
			if s, ok := impl.SwitchFrom(string(targets), []int{1, 0, 4}); ok != good || impl.SwitchValid(s) != true || ok != (len(s.Cases) == 2) {
				t.Errorf("SwitchFrom(%q) = %v, %v, want %v", targets, s, ok, good)
			}
		}
	}
}

// TestSwitchesOfTheirWords makes many switches again of their words.
func TestSwitchesOfTheirWords(t *testing.T) {
	for number, s := range manySwitches(3000) {
		// Without weights, MergeCases puts all neighbours together that have one target.
		for i := range s.Cases {
			s.Cases[i].Weight = 0
		}
		s.Rest = 0
		merged, _ := impl.MergeCases(s)
		targets := caseTargets(s)
		if number%3 == 0 {
			targets = "abcdefgh"
		}
		targets = arranged(targets, anyOrder(len(targets), number))
		masks := []int{}
		if targets != "" {
			masks = wordsOf(s, targets)
		}
		back, ok := impl.SwitchFrom(targets, masks)
		if !ok || impl.FormatSwitch(back) != impl.FormatSwitch(merged) {
			t.Fatalf("SwitchFrom(%q, %x) = %v, %v, want %v", targets, masks, back, ok, merged)
		}
	}
}

// dealt returns words that share no key, each number dealing keys another way.
func dealt(number int) []int {
	state := uint32(number)
	masks := make([]int, 4)
	at := 0
	for key := range 32 {
		state = state*1664525 + 1013904223
		// Keys seldom go to another word, so that there are ranges.
		if state>>24 < 50 {
			at = int(state>>8) % 5
		}
		if at < 4 {
			masks[at] += 1 << key
		}
	}
	return masks
}

// TestRangesOfWords holds the cases of many words against their bits one by one.
func TestRangesOfWords(t *testing.T) {
	seen := map[int]int{}
	for number := range 5000 {
		masks := dealt(number)
		all, ranges, last := "", 0, "z"
		for key := range 32 {
			target := "z"
			for i, mask := range masks {
				if mask>>key&1 == 1 {
					target = "gbda"[i : i+1]
				}
			}
			if target != "z" && target != last {
				ranges++
			}
			last = target
			all += target
		}
		s, ok := impl.SwitchFrom("gbda", masks)
		seen[min(9, ranges)]++
		if ranges > impl.MaxCases {
			checkNoSwitch(t, "gbda", masks)
			continue
		}
		if !ok || !impl.SwitchValid(s) || len(s.Cases) != ranges || targetsByKey(s) != all || impl.TotalWeight(s) != 0 {
			t.Fatalf("SwitchFrom(%x) = %v, %v, want %s", masks, s, ok, all)
		}
	}
	if seen[8] < 50 || seen[9] < 50 || seen[4] < 50 {
		t.Errorf("words have so many ranges: %v", seen)
	}
}

func TestNoWordsOfSwitchesThatAreNotValid(t *testing.T) {
	for name, s := range wrongSwitches() {
		for _, target := range append(strings.Split(letters, ""), "", "i", "ab") {
			checkNoTarget(t, name, s, target)
		}
		for _, order := range []string{"", "a", "b", "ab", "ba", "abc", caseTargets(s)} {
			checkNoOrder(t, name, s, order)
		}
		if got, ok := impl.BestMasks(s); got != "" || ok {
			t.Errorf("%s: BestMasks = %q, %v", name, got, ok)
		}
	}
}

// useMasks calls every function of the chapter that takes a switch.
func useMasks(s impl.Switch) {
	impl.MaskOf(s, "a")
	impl.MaskWeight(s, "a")
	impl.RunMasks(s, "ab", 7)
	impl.MasksCost(s, "ab")
	impl.BestMasks(s)
}

func TestWordsLeaveArgumentsAsTheyAre(t *testing.T) {
	for _, text := range []string{"0-3a5,7b2;1", "0-3b5,7a2,9b4;1", ";7"} {
		checkStays(t, read(t, text), useMasks)
	}
	for _, masks := range [][]int{{4, 1, 2}, {1, 1, 2}, {4, -1, 2}, {0x55555555, 0, 2}, {}} {
		numbers := append(slices.Clone(masks), 77, 78)
		before := slices.Clone(numbers)
		impl.MasksFit(numbers[:len(masks)])
		impl.SwitchFrom("cab"[:len(masks)], numbers[:len(masks)])
		if !slices.Equal(numbers, before) {
			t.Errorf("words have become %v, were %v", numbers, before)
		}
	}
}

func TestSwitchesOfWordsShareNoMemory(t *testing.T) {
	one, _ := impl.SwitchFrom("ba", []int{15, 128 + 512})
	two, _ := impl.SwitchFrom("ba", []int{15, 128 + 512})
	want := slices.Clone(two.Cases)
	mark := impl.Case{Low: 21, High: 22, Target: "g", Weight: 23}
	fill(one.Cases, mark)
	if !slices.Equal(two.Cases, want) || slices.Contains(two.Cases[:cap(two.Cases)], mark) {
		t.Errorf("SwitchFrom has become %v, was %v", two.Cases, want)
	}
	if again, _ := impl.SwitchFrom("ba", []int{15, 128 + 512}); !slices.Equal(again.Cases, want) {
		t.Errorf("SwitchFrom keeps %v", again.Cases)
	}
}
