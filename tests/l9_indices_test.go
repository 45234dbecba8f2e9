package tests

import (
	"math"
	"slices"
	"strconv"
	"strings"
	"sync"
	"testing"

	"loop.example/keyswitches/impl"
)

// entriesFrom returns the entries that a text such as `1a . 3b .` tells.
func entriesFrom(t *testing.T, text string) []impl.Entry {
	t.Helper()
	var list []impl.Entry
	if text == "-" {
		return list
	}
	for _, part := range strings.Split(text, " ") {
		if part == "." {
			list = append(list, impl.Entry{Key: -1, Target: "z"})
			continue
		}
		end := len(part) - 1
		key, err := strconv.Atoi(part[:end])
		if err != nil {
			t.Fatalf("no entry: %q", part)
		}
		list = append(list, impl.Entry{Key: key, Target: part[end:]})
	}
	return list
}

// factorsThatAreNone returns even factors, factors just outside of the bounds, and factors far away.
func factorsThatAreNone() []int {
	list := []int{math.MinInt, math.MinInt + 1, -31, -3, -2, -1, 33, 34, 35, 63, 65, 1 << 32, 1<<32 + 1, math.MaxInt - 1, math.MaxInt}
	for even := 0; even <= 32; even += 2 {
		list = append(list, even)
	}
	return list
}

// bitsThatAreNone returns numbers of bits just outside of the bounds, and far away.
func bitsThatAreNone() []int {
	return []int{math.MinInt, -64, -5, -2, -1, 6, 7, 8, 32, 63, 64, 1 << 32, math.MaxInt}
}

// factors returns all factors.
func factors() []int {
	var list []int
	for factor := 1; factor <= 31; factor += 2 {
		list = append(list, factor)
	}
	return list
}

// everyKey returns all keys.
func everyKey() []int {
	var list []int
	for key := range impl.MaxKey + 1 {
		list = append(list, key)
	}
	return list
}

// indexByHand returns an index, of the digits to the base 2 that the document tells of.
func indexByHand(key, factor, bits int) int {
	product := 0
	for range factor {
		product += key
	}
	digits := "00000" + strconv.FormatInt(int64(product), 2)
	five := digits[len(digits)-5:]
	index, _ := strconv.ParseInt("0"+five[:bits], 2, 64)
	return int(index)
}

// clashesByHand returns how many keys have the index of one before them.
func clashesByHand(keys []int, factor, bits int) int {
	clashes := 0
	for i, key := range keys {
		for _, other := range keys[:i] {
			if indexByHand(key, factor, bits) == indexByHand(other, factor, bits) {
				clashes++
				break
			}
		}
	}
	return clashes
}

// factorByHand returns the first factor with the fewest clashes, and how many these are.
func factorByHand(keys []int, bits int) (int, int) {
	best, least := 0, math.MaxInt
	for _, factor := range factors() {
		if clashes := clashesByHand(keys, factor, bits); clashes < least {
			best, least = factor, clashes
		}
	}
	return best, least
}

// keysByHand returns the keys that have a case.
func keysByHand(s impl.Switch) []int {
	var list []int
	for key := range impl.MaxKey + 1 {
		if impl.CaseOf(s, key) >= 0 {
			list = append(list, key)
		}
	}
	return list
}

// manyKeys returns lists of different keys of all lengths, in all kinds of orders.
func manyKeys(count int) [][]int {
	state := uint32(7)
	below := func(n int) int {
		state = state*1664525 + 1013904223
		return int(state>>8) % n
	}
	var lists [][]int
	for range count {
		list := everyKey()
		for i := range list {
			j := i + below(len(list)-i)
			list[i], list[j] = list[j], list[i]
		}
		list = list[:below(33)]
		if below(2) == 0 {
			slices.Sort(list)
		}
		lists = append(lists, list)
	}
	return lists
}

func TestKeysWithCases(t *testing.T) {
	wants := []struct {
		text string
		keys []int
	}{
		{"1a1,3b1,5c1,7d1;0", []int{1, 3, 5, 7}},
		{"0-3a5,7b2;1", []int{0, 1, 2, 3, 7}},
		{"0a0;0", []int{0}},
		{"31a1;0", []int{31}},
		{"0-1a1,2-3b1,4c0,30-31a1;9", []int{0, 1, 2, 3, 4, 30, 31}},
		{"0-31a1;0", everyKey()},
		{"0-15b1,16-31a1;0", everyKey()},
		{";0", nil},
		{";99", nil},
	}
	for _, want := range wants {
		if got, ok := impl.KeysOf(read(t, want.text)); !slices.Equal(got, want.keys) || !ok {
			t.Errorf("KeysOf(%q) = %v, %v, want %v", want.text, got, ok, want.keys)
		}
	}
	for _, s := range manySwitches(500) {
		if got, ok := impl.KeysOf(s); !slices.Equal(got, keysByHand(s)) || !ok {
			t.Fatalf("KeysOf(%q) = %v, %v, want %v", impl.FormatSwitch(s), got, ok, keysByHand(s))
		}
	}
}

func TestIndicesOfKeys(t *testing.T) {
	wants := [][4]int{
		// The example of the document.
		{1, 3, 3, 0}, {3, 3, 3, 2}, {5, 3, 3, 3}, {7, 3, 3, 5},
		// Products around those of which something is left by 32.
		{31, 1, 5, 31}, {16, 1, 5, 16}, {16, 3, 5, 16}, {11, 3, 5, 1}, {10, 3, 5, 30}, {31, 31, 5, 1}, {30, 31, 5, 2}, {1, 31, 5, 31},
		// The bits that count most, and not those that count least.
		{16, 1, 1, 1}, {15, 1, 1, 0}, {1, 1, 1, 0}, {1, 1, 4, 0}, {2, 1, 4, 1}, {3, 1, 4, 1}, {24, 1, 2, 3}, {23, 1, 2, 2}, {7, 1, 2, 0}, {8, 1, 2, 1},
		// Indices of no bits.
		{0, 1, 0, 0}, {31, 1, 0, 0}, {31, 31, 0, 0}, {17, 5, 0, 0},
		{0, 1, 5, 0}, {0, 31, 5, 0},
	}
	for _, want := range wants {
		if got := impl.IndexOf(want[0], want[1], want[2]); got != want[3] {
			t.Errorf("IndexOf(%d, %d, %d) = %d, want %d", want[0], want[1], want[2], got, want[3])
		}
	}
	for _, key := range everyKey() {
		for _, factor := range factors() {
			for bits := range 6 {
				if got, want := impl.IndexOf(key, factor, bits), indexByHand(key, factor, bits); got != want {
					t.Errorf("IndexOf(%d, %d, %d) = %d, want %d", key, factor, bits, got, want)
				}
			}
		}
	}
}

// checkNoIndex reports an index that there is not.
func checkNoIndex(t *testing.T, key, factor, bits int) {
	t.Helper()
	if got := impl.IndexOf(key, factor, bits); got != -1 {
		t.Errorf("IndexOf(%d, %d, %d) = %d", key, factor, bits, got)
	}
}

func TestNoIndices(t *testing.T) {
	for bits := range 6 {
		for _, factor := range factors() {
			for _, key := range numbersThatAreNoKeys() {
				checkNoIndex(t, key, factor, bits)
			}
		}
		for _, factor := range factorsThatAreNone() {
			for _, key := range []int{0, 1, 7, 31, 32} {
				checkNoIndex(t, key, factor, bits)
			}
		}
	}
	for _, bits := range bitsThatAreNone() {
		for _, factor := range []int{1, 3, 31, 2, 33} {
			for _, key := range []int{-1, 0, 1, 31} {
				checkNoIndex(t, key, factor, bits)
			}
		}
	}
}

func TestClashesOfKeys(t *testing.T) {
	wants := []struct {
		keys         []int
		factor, bits int
		clashes      int
	}{
		{[]int{1, 3, 5, 7}, 3, 3, 0},
		{[]int{1, 3, 5, 7}, 1, 3, 2},
		{[]int{1, 3, 5, 7}, 1, 2, 3},
		{[]int{7, 5, 3, 1}, 1, 2, 3},
		{[]int{5, 1, 7, 3}, 1, 3, 2},
		// No keys, and one key.
		{nil, 1, 0, 0},
		{[]int{}, 31, 5, 0},
		{[]int{0}, 1, 0, 0},
		{[]int{31}, 31, 5, 0},
		// Indices of no bits are all the same.
		{[]int{0, 31}, 1, 0, 1},
		{[]int{4, 2, 9}, 7, 0, 2},
		{everyKey(), 1, 0, 31},
		// With all bits, none are.
		{everyKey(), 1, 5, 0},
		{everyKey(), 31, 5, 0},
		{everyKey(), 1, 4, 16},
		{everyKey(), 1, 1, 30},
		// Each key counts once, however many before it have its index, also if they stand far ahead.
		{[]int{0, 1, 2, 3}, 1, 2, 3},
		{[]int{0, 16, 1, 17}, 1, 1, 2},
		{[]int{0, 8, 16, 24, 1}, 1, 2, 1},
	}
	for _, want := range wants {
		if got := impl.CountClashes(want.keys, want.factor, want.bits); got != want.clashes {
			t.Errorf("CountClashes(%v, %d, %d) = %d, want %d", want.keys, want.factor, want.bits, got, want.clashes)
		}
	}
}

func TestBestFactors(t *testing.T) {
	wants := []struct {
		keys   []int
		bits   int
		factor int
	}{
		{[]int{1, 3, 5, 7}, 3, 3},
		{[]int{7, 5, 3, 1}, 3, 3},
		{[]int{0, 16}, 1, 1},
		{[]int{0, 1}, 1, 17},
		// Without keys, or with one, the first factor has no clashes.
		{nil, 0, 1},
		{nil, 5, 1},
		{[]int{}, 3, 1},
		{[]int{9}, 0, 1},
		{[]int{31}, 5, 1},
		// Where all factors have as many clashes, the first one is taken.
		{[]int{1, 2, 3}, 0, 1},
		{everyKey(), 0, 1},
		{everyKey(), 4, 1},
		{everyKey(), 5, 1},
		{[]int{0, 2}, 1, 9},
		{[]int{0, 4}, 1, 5},
	}
	for _, want := range wants {
		if got, ok := impl.BestFactor(want.keys, want.bits); got != want.factor || !ok {
			t.Errorf("BestFactor(%v, %d) = %d, %v, want %d", want.keys, want.bits, got, ok, want.factor)
		}
	}
}

// TestClashesHeldAgainstIndices holds the clashes of many keys against their indices one by one.
func TestClashesHeldAgainstIndices(t *testing.T) {
	best := map[int]int{}
	for _, keys := range manyKeys(250) {
		for bits := range 6 {
			for _, factor := range factors() {
				if got, want := impl.CountClashes(keys, factor, bits), clashesByHand(keys, factor, bits); got != want {
					t.Fatalf("CountClashes(%v, %d, %d) = %d, want %d", keys, factor, bits, got, want)
				}
			}
			want, _ := factorByHand(keys, bits)
			if got, ok := impl.BestFactor(keys, bits); got != want || !ok {
				t.Fatalf("BestFactor(%v, %d) = %d, %v, want %d", keys, bits, got, ok, want)
			}
			best[want]++
		}
	}
	if len(best) < 12 {
		t.Errorf("factors were best so often: %v", best)
	}
}

// listsThatAreNoKeys returns lists in which one is no key or stands twice.
func listsThatAreNoKeys() [][]int {
	lists := [][]int{{1, 1}, {0, 0}, {31, 31}, {1, 2, 1}, {1, 2, 2}, {5, 5, 9}, {3, 9, 27, 4, 3}, append(everyKey(), 0), append(everyKey(), 31), slices.Repeat([]int{4}, 1<<16)}
	for _, wrong := range numbersThatAreNoKeys() {
		lists = append(lists, []int{wrong}, []int{wrong, 3}, []int{3, wrong}, []int{wrong, wrong}, append(everyKey(), wrong))
	}
	return lists
}

// checkNoClashes reports keys, a factor or bits that are not so but have clashes.
func checkNoClashes(t *testing.T, keys []int, factor, bits int) {
	t.Helper()
	if got := impl.CountClashes(keys, factor, bits); got != -1 {
		t.Errorf("CountClashes(%.60v, %d, %d) = %d", keys, factor, bits, got)
	}
}

// checkNoFactor reports keys or bits that are not so but have a best factor.
func checkNoFactor(t *testing.T, keys []int, bits int) {
	t.Helper()
	if got, ok := impl.BestFactor(keys, bits); got != 0 || ok {
		t.Errorf("BestFactor(%.60v, %d) = %d, %v", keys, bits, got, ok)
	}
}

func TestNoClashesOfListsThatAreNoKeys(t *testing.T) {
	for _, keys := range listsThatAreNoKeys() {
		for bits := range 6 {
			for _, factor := range []int{1, 3, 17, 31} {
				checkNoClashes(t, keys, factor, bits)
			}
			checkNoFactor(t, keys, bits)
		}
		checkNoClashes(t, keys, 2, 6)
		checkNoFactor(t, keys, 6)
	}
}

func TestNoClashesByFactorsAndBitsThatAreNone(t *testing.T) {
	for _, keys := range [][]int{nil, {}, {0}, {1, 3, 5, 7}, everyKey()} {
		for _, factor := range factorsThatAreNone() {
			for bits := range 6 {
				checkNoClashes(t, keys, factor, bits)
			}
		}
		for _, bits := range bitsThatAreNone() {
			for _, factor := range []int{1, 3, 31, 2} {
				checkNoClashes(t, keys, factor, bits)
			}
			checkNoFactor(t, keys, bits)
		}
	}
}

// A perfection is a switch, and what its keys are without clashes by.
type perfection struct {
	text         string
	factor, bits int
	entries      string
}

// perfections returns switches whose keys have no clashes.
func perfections() []perfection {
	return []perfection{
		{"1a1,3b1,5c1,7d1;0", 3, 3, "1a . 3b 5c . 7d . ."},
		// No keys, and one key, have an index of no bits.
		{";0", 1, 0, "."},
		{";99", 1, 0, "."},
		{"0a0;0", 1, 0, "0a"},
		{"30a1;0", 1, 0, "30a"},
		{"31h99;99", 1, 0, "31h"},
		// Two keys have one bit, if some factor parts them.
		{"0a1,16b1;0", 1, 1, "0a 16b"},
		{"0a1,1b1;0", 17, 1, "0a 1b"},
		{"15a1,16b1;0", 1, 1, "15a 16b"},
		{"4c2,5c2;0", 7, 1, "5c 4c"},
		{"9-10d9;0", 5, 1, "9d 10d"},
		// As many keys as may be, with one case and with several.
		{"0-15a1;1", 17, 4, "0a 2a 4a 6a 8a 10a 12a 14a 1a 3a 5a 7a 9a 11a 13a 15a"},
		{"0-7a1,24-31b2;1", 17, 4, "0a 2a 4a 6a 25b 27b 29b 31b 1a 3a 5a 7a 24b 26b 28b 30b"},
		{"0-13a1,20-21b2;1", 1, 5, "0a 1a 2a 3a 4a 5a 6a 7a 8a 9a 10a 11a 12a 13a . . . . . . 20b 21b . . . . . . . . . ."},
	}
}

func TestPerfectFactorsAndEntries(t *testing.T) {
	for _, want := range perfections() {
		s := read(t, want.text)
		if factor, bits, ok := impl.PerfectFor(s); factor != want.factor || bits != want.bits || !ok {
			t.Errorf("PerfectFor(%q) = %d, %d, %v, want %d, %d", want.text, factor, bits, ok, want.factor, want.bits)
		}
		entries, ok := impl.EntriesOf(s)
		if !slices.Equal(entries, entriesFrom(t, want.entries)) || !ok {
			t.Errorf("EntriesOf(%q) = %v, %v, want %s", want.text, entries, ok, want.entries)
		}
		if got := impl.FormatEntries(entries); got != want.entries {
			t.Errorf("FormatEntries(%v) = %q, want %q", entries, got, want.entries)
		}
	}
}

// checkNotPerfect reports a switch that is not valid, or has too many keys, but is without clashes.
func checkNotPerfect(t *testing.T, name string, s impl.Switch) {
	t.Helper()
	if factor, bits, ok := impl.PerfectFor(s); factor != 0 || bits != 0 || ok {
		t.Errorf("%s: PerfectFor = %d, %d, %v", name, factor, bits, ok)
	}
	if entries, ok := impl.EntriesOf(s); len(entries) != 0 || ok {
		t.Errorf("%s: EntriesOf = %v, %v", name, entries, ok)
	}
}

func TestSwitchesWithTooManyKeys(t *testing.T) {
	for _, text := range []string{"0-16a1;1", "15-31a1;1", "0-31a1;0", "0-15b1,16-31a1;0", "0-7a1,23-31b2;1", "0-1a1,3-4a1,6-7a1,9-10a1,12-13a1,15-16a1,18-19a1,21-23a1;0"} {
		s := read(t, text)
		checkNotPerfect(t, text, s)
		if keys, ok := impl.KeysOf(s); len(keys) <= impl.MaxIndexed || !ok {
			t.Errorf("KeysOf(%q) = %v, %v", text, keys, ok)
		}
	}
}

// perfectByHand returns the first factor without clashes for the fewest bits, and these.
func perfectByHand(keys []int) (int, int) {
	bits := 0
	for {
		if factor, clashes := factorByHand(keys, bits); clashes == 0 {
			return factor, bits
		}
		bits++
	}
}

// entriesByHand returns the entries of a switch by a factor without clashes.
func entriesByHand(s impl.Switch, factor, bits int) []impl.Entry {
	var list []impl.Entry
	for index := range 1 << bits {
		e := impl.Entry{Key: -1, Target: "z"}
		for _, key := range keysByHand(s) {
			if indexByHand(key, factor, bits) == index {
				e.Key = key
				e.Target, _ = impl.TargetOf(s, key)
			}
		}
		list = append(list, e)
	}
	return list
}

// TestEntriesOfManySwitches holds entries of many switches against their keys.
func TestEntriesOfManySwitches(t *testing.T) {
	list := manySwitches(600)
	for number := range 600 {
		list = append(list, scattered(number))
	}
	counts, refused := map[int]int{}, 0
	for _, s := range list {
		text, keys := impl.FormatSwitch(s), keysByHand(s)
		if len(keys) > impl.MaxIndexed {
			checkNotPerfect(t, text, s)
			refused++
			continue
		}
		factor, bits := perfectByHand(keys)
		if gotFactor, gotBits, ok := impl.PerfectFor(s); gotFactor != factor || gotBits != bits || !ok {
			t.Fatalf("PerfectFor(%q) = %d, %d, %v, want %d, %d", text, gotFactor, gotBits, ok, factor, bits)
		}
		entries, ok := impl.EntriesOf(s)
		if want := entriesByHand(s, factor, bits); !slices.Equal(entries, want) || !ok {
			t.Fatalf("EntriesOf(%q) = %v, %v, want %v", text, entries, ok, want)
		}
		checkFoundByIndex(t, s, entries, factor)
		counts[bits]++
	}
	if len(counts) != 6 || refused < 50 {
		t.Errorf("bits came so often: %v; %d switches had too many keys", counts, refused)
	}
}

// checkFoundByIndex reports keys that entries of a switch lead elsewhere.
func checkFoundByIndex(t *testing.T, s impl.Switch, entries []impl.Entry, factor int) {
	t.Helper()
	all := targetsByKey(s)
	for key := range impl.MaxKey + 1 {
		if target, ok := impl.LookIndex(entries, factor, key); target != all[key:key+1] || !ok {
			t.Fatalf("LookIndex(%v, %d, %d) = %q, %v, want %q", entries, factor, key, target, ok, all[key:key+1])
		}
	}
}

func TestKeysAreFoundAtTheirIndex(t *testing.T) {
	wants := []struct {
		entries string
		factor  int
		key     int
		target  string
	}{
		{"1a . 3b 5c . 7d . .", 3, 1, "a"},
		{"1a . 3b 5c . 7d . .", 3, 3, "b"},
		{"1a . 3b 5c . 7d . .", 3, 7, "d"},
		// Keys that are not there: at the index of another one, and at one that no key has.
		{"1a . 3b 5c . 7d . .", 3, 0, "z"},
		{"1a . 3b 5c . 7d . .", 3, 4, "z"},
		{"1a . 3b 5c . 7d . .", 3, 2, "z"},
		{"1a . 3b 5c . 7d . .", 3, 31, "z"},
		// By another factor, keys have other indices.
		{"1a . 3b 5c . 7d . .", 1, 1, "a"},
		{"1a . 3b 5c . 7d . .", 1, 3, "z"},
		{"1a . 3b 5c . 7d . .", 1, 5, "z"},
		// One entry, which all keys have the index of.
		{"30a", 1, 30, "a"},
		{"30a", 31, 30, "a"},
		{"30a", 1, 29, "z"},
		{"30a", 1, 0, "z"},
		{".", 1, 0, "z"},
		{".", 31, 31, "z"},
		// Entries that are at the index of no key, or there twice, count where they are.
		{"16a 0b", 1, 16, "z"},
		{"16a 0b", 1, 0, "z"},
		{"16a 16b", 1, 16, "b"},
		{"16a 16b", 1, 0, "z"},
		{"0a 0b", 1, 0, "a"},
		{"0a 0b", 1, 1, "z"},
		// A key may go to z as well.
		{"0z 16h", 1, 0, "z"},
		{"0z 16h", 1, 16, "h"},
		{"0z 16h", 1, 17, "z"},
	}
	for _, want := range wants {
		if got, ok := impl.LookIndex(entriesFrom(t, want.entries), want.factor, want.key); got != want.target || !ok {
			t.Errorf("LookIndex(%s, %d, %d) = %q, %v, want %q", want.entries, want.factor, want.key, got, ok, want.target)
		}
	}
	// An entry without a key may have any target, but leads no key there.
	for _, target := range strings.Split("abcdefghz", "") {
		for key := range impl.MaxKey + 1 {
			if got, ok := impl.LookIndex([]impl.Entry{{Key: -1, Target: target}}, 1, key); got != "z" || !ok {
				t.Errorf("LookIndex(-1 %s, %d) = %q, %v", target, key, got, ok)
			}
		}
	}
}

// TestEachEntryCountsForItsKey looks up all keys by all factors in lists of all lengths, of which one entry has the key.
func TestEachEntryCountsForItsKey(t *testing.T) {
	for bits := range 6 {
		for at := range 1 << bits {
			list := slices.Repeat([]impl.Entry{{Key: -1, Target: "z"}}, 1<<bits)
			for key := range impl.MaxKey + 1 {
				list[at] = impl.Entry{Key: key, Target: "c"}
				for _, factor := range factors() {
					want := "z"
					if indexByHand(key, factor, bits) == at {
						want = "c"
					}
					if got, ok := impl.LookIndex(list, factor, key); got != want || !ok {
						t.Fatalf("LookIndex(%v, %d, %d) = %q, %v, want %q", list, factor, key, got, ok, want)
					}
				}
			}
		}
	}
}

// checkNotFound reports entries, a factor or a key that are not so but have a target.
func checkNotFound(t *testing.T, entries []impl.Entry, factor, key int) {
	t.Helper()
	if target, ok := impl.LookIndex(entries, factor, key); target != "" || ok {
		t.Errorf("LookIndex(%.60v, %d, %d) = %q, %v", entries, factor, key, target, ok)
	}
}

func TestNumbersOfEntries(t *testing.T) {
	for count := range 140 {
		list := slices.Repeat([]impl.Entry{{Key: 5, Target: "a"}}, count)
		if slices.Contains([]int{1, 2, 4, 8, 16, 32}, count) {
			if target, ok := impl.LookIndex(list, 1, 5); target != "a" || !ok {
				t.Errorf("LookIndex of %d entries = %q, %v", count, target, ok)
			}
			continue
		}
		checkNotFound(t, list, 1, 5)
		checkNotFound(t, list, 31, 0)
	}
	for _, count := range []int{256, 1 << 10, 1 << 16, 1<<16 + 1} {
		checkNotFound(t, slices.Repeat([]impl.Entry{{Key: 5, Target: "a"}}, count), 1, 5)
	}
}

// wrongEntries returns entries that have neither a key nor -1, or no target.
func wrongEntries() []impl.Entry {
	list := []impl.Entry{{}, {Key: -1}, {Key: -1, Target: "i"}, {Key: -2, Target: "i"}}
	for _, wrong := range numbersThatAreNoKeys() {
		if wrong != -1 {
			list = append(list, impl.Entry{Key: wrong, Target: "a"}, impl.Entry{Key: wrong, Target: "z"})
		}
	}
	list = append(list, impl.Entry{Key: -2, Target: "z"})
	for _, wrong := range targetsThatAreNone() {
		list = append(list, impl.Entry{Key: 0, Target: wrong}, impl.Entry{Key: 5, Target: wrong}, impl.Entry{Key: -1, Target: wrong})
	}
	return list
}

// TestEntriesThatAreWrong puts wrong entries at all places, also where no key is looked up.
func TestEntriesThatAreWrong(t *testing.T) {
	for _, wrong := range wrongEntries() {
		for _, text := range []string{"5a", "5a .", "1a . 3b 5c . 7d . ."} {
			list := entriesFrom(t, text)
			for at := range list {
				changed := slices.Clone(list)
				changed[at] = wrong
				for _, key := range []int{0, 1, 5, 31} {
					checkNotFound(t, changed, 1, key)
				}
			}
		}
	}
}

func TestNothingIsFoundByFactorsAndKeysThatAreNone(t *testing.T) {
	for _, text := range []string{".", "5a", "5a .", "1a . 3b 5c . 7d . ."} {
		list := entriesFrom(t, text)
		for _, factor := range factorsThatAreNone() {
			for _, key := range []int{0, 5, 31} {
				checkNotFound(t, list, factor, key)
			}
		}
		for _, key := range numbersThatAreNoKeys() {
			for _, factor := range factors() {
				checkNotFound(t, list, factor, key)
			}
		}
	}
	checkNotFound(t, nil, 1, 5)
	checkNotFound(t, []impl.Entry{}, 1, 5)
}

func TestTextsOfEntries(t *testing.T) {
	wants := []struct {
		entries []impl.Entry
		text    string
	}{
		{nil, "-"},
		{[]impl.Entry{}, "-"},
		{[]impl.Entry{{Key: 7, Target: "d"}, {Key: -1, Target: "z"}}, "7d ."},
		{[]impl.Entry{{Key: 0, Target: "a"}}, "0a"},
		{[]impl.Entry{{Key: 31, Target: "z"}, {Key: 10, Target: "h"}, {Key: 31, Target: "z"}}, "31z 10h 31z"},
		{[]impl.Entry{{Key: -1, Target: "z"}, {Key: -1, Target: "z"}}, ". ."},
		// A key below 0 has no text, whatever its target is.
		{[]impl.Entry{{Key: -1, Target: "a"}, {Key: -2, Target: "z"}, {Key: math.MinInt, Target: "long"}, {Key: -1}}, ". . . ."},
		// Entries that no key may be looked up in have texts all the same.
		{[]impl.Entry{{}}, "0"},
		{[]impl.Entry{{}, {}, {}}, "0 0 0"},
		{[]impl.Entry{{Key: 32, Target: "i"}, {Key: 100, Target: "\xff "}, {Key: math.MaxInt, Target: "."}}, "32i 100\xff  9223372036854775807."},
	}
	for _, want := range wants {
		if got := impl.FormatEntries(want.entries); got != want.text {
			t.Errorf("FormatEntries(%v) = %q, want %q", want.entries, got, want.text)
		}
	}
	long := impl.FormatEntries(slices.Repeat([]impl.Entry{{Key: 9, Target: "b"}}, 5000))
	if want := strings.TrimSuffix(strings.Repeat("9b ", 5000), " "); long != want {
		t.Errorf("long entries have %d bytes, want %d", len(long), len(want))
	}
}

func TestNoIndicesOfSwitchesThatAreNotValid(t *testing.T) {
	for name, s := range wrongSwitches() {
		if keys, ok := impl.KeysOf(s); len(keys) != 0 || ok {
			t.Errorf("%s: KeysOf = %v, %v", name, keys, ok)
		}
		checkNotPerfect(t, name, s)
	}
}

// useIndices calls every function of the chapter that takes a switch.
func useIndices(s impl.Switch) {
	impl.KeysOf(s)
	impl.PerfectFor(s)
	impl.EntriesOf(s)
}

func TestIndicesLeaveArgumentsAsTheyAre(t *testing.T) {
	for _, text := range []string{"0-3a5,7b2;1", "1a1,3b1,5c1,7d1;0", "0-31a1;0", ";7"} {
		checkStays(t, read(t, text), useIndices)
	}
	for _, keys := range [][]int{{7, 5, 3, 1}, {7, 7, 1}, {32, 1}, {}} {
		memory := append(slices.Clone(keys), 77, 78)
		before := slices.Clone(memory)
		impl.CountClashes(memory[:len(keys)], 3, 3)
		impl.BestFactor(memory[:len(keys)], 3)
		if !slices.Equal(memory, before) {
			t.Errorf("the keys have become %v, were %v", memory, before)
		}
	}
	for _, text := range []string{"1a . 3b 5c . 7d . .", "7d 5c . .", "5a", "1a 2b 3c", "-"} {
		list := entriesFrom(t, text)
		mark := impl.Entry{Key: 77, Target: "mark"}
		memory := append(slices.Clone(list), mark, mark)
		before := slices.Clone(memory)
		for key := range impl.MaxKey + 1 {
			impl.LookIndex(memory[:len(list)], 3, key)
		}
		impl.FormatEntries(memory[:len(list)])
		if !slices.Equal(memory, before) {
			t.Errorf("the entries have become %v, were %v", memory, before)
		}
	}
}

func TestEntriesShareNoMemory(t *testing.T) {
	for _, text := range []string{"1a1,3b1,5c1,7d1;0", "0-15a1;1", "30a1;0", "0-13a1,20-21b2;1", ";0"} {
		s := read(t, text)
		oneKeys, _ := impl.KeysOf(s)
		twoKeys, _ := impl.KeysOf(s)
		one, _ := impl.EntriesOf(s)
		two, _ := impl.EntriesOf(s)
		wantKeys, want := slices.Clone(twoKeys), slices.Clone(two)
		mark := impl.Entry{Key: 77, Target: "mark"}
		fill(oneKeys, 77)
		fill(one, mark)
		if !slices.Equal(twoKeys, wantKeys) || slices.Contains(twoKeys[:cap(twoKeys)], 77) {
			t.Errorf("KeysOf(%q) has become %v, was %v", text, twoKeys[:cap(twoKeys)], wantKeys)
		}
		if !slices.Equal(two, want) || slices.Contains(two[:cap(two)], mark) {
			t.Errorf("EntriesOf(%q) has become %v, was %v", text, two[:cap(two)], want)
		}
		keys, _ := impl.KeysOf(s)
		entries, _ := impl.EntriesOf(s)
		if !slices.Equal(keys, wantKeys) || !slices.Equal(entries, want) {
			t.Errorf("%q: KeysOf keeps %v, or EntriesOf keeps %v", text, keys, entries)
		}
	}
}

// TestFactorsOfManyCallers calls functions at the same time, and again and again, for the same results.
func TestFactorsOfManyCallers(t *testing.T) {
	type result struct {
		best, factor, bits int
		bestOk, ok         bool
		entries            string
	}
	resultOf := func(s impl.Switch, keys []int) (r result) {
		r.best, r.bestOk = impl.BestFactor(keys, 3)
		r.factor, r.bits, r.ok = impl.PerfectFor(s)
		entries, _ := impl.EntriesOf(s)
		r.entries = impl.FormatEntries(entries)
		return r
	}
	var callers sync.WaitGroup
	for _, text := range []string{"1a1,3b1,5c1,7d1;0", "0-15a1;1", "0-13a1,20-21b2;1", "30a1;0", ";4", "0-31a1;0"} {
		s := read(t, text)
		keys := keysByHand(s)
		want := resultOf(s, keys)
		for range 4 {
			callers.Go(func() {
				for range 25 {
					if got := resultOf(s, keys); got != want {
						t.Errorf("%q: %v, want %v", text, got, want)
					}
				}
			})
		}
	}
	callers.Wait()
}
