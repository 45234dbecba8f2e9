package tests

import (
	"math"
	"slices"
	"strings"
	"testing"

	"loop.example/keyswitches/impl"
)

// sizesOfPages are the sizes that pages may have.
var sizesOfPages = []int{1, 2, 4, 8, 16, 32}

// numbersThatAreNoKeys returns numbers just outside of the keys, and far away.
func numbersThatAreNoKeys() []int {
	return []int{math.MinInt, -32, -1, 32, 33, 64, 256, 1 << 32, math.MaxInt}
}

func TestTablesOfRanges(t *testing.T) {
	wants := []struct {
		text      string
		low, high int
		table     string
		density   int
	}{
		{"0-3a5,7b2;1", 2, 8, "aazzzbz", 42}, // 3 of 7
		{"0-3a5,7b2;1", 0, 0, "a", 100},
		{"0-3a5,7b2;1", 0, 3, "aaaa", 100},
		{"0-3a5,7b2;1", 0, 4, "aaaaz", 80},
		{"0-3a5,7b2;1", 4, 6, "zzz", 0},
		{"0-3a5,7b2;1", 4, 7, "zzzb", 25},
		{"0-3a5,7b2;1", 7, 7, "b", 100},
		{"0-3a5,7b2;1", 8, 8, "z", 0},
		{"0-3a5,7b2;1", 0, 7, "aaaazzzb", 62},                            // 62.5
		{"0-3a5,7b2;1", 3, 8, "azzzbz", 33},                              // 33.3
		{"0-3a5,7b2;1", 2, 4, "aaz", 66},                                 // 66.7
		{"0-3a5,7b2;1", 0, 31, "aaaazzzb" + strings.Repeat("z", 24), 15}, // 15.6
		{"0-3a5,7b2;1", 31, 31, "z", 0},
		// The last key, and all keys but one.
		{"31h1;0", 0, 31, strings.Repeat("z", 31) + "h", 3}, // 3.1
		{"31h1;0", 30, 31, "zh", 50},
		{"31h1;0", 31, 31, "h", 100},
		{"0-30c1;0", 0, 31, strings.Repeat("c", 31) + "z", 96}, // 96.9
		{"1-31c1;0", 0, 31, "z" + strings.Repeat("c", 31), 96},
		{"1-31c1;0", 1, 31, strings.Repeat("c", 31), 100},
		// No case, and a case of all keys.
		{";9", 0, 31, strings.Repeat("z", 32), 0},
		{";9", 5, 5, "z", 0},
		{"0-31d9;9", 0, 31, strings.Repeat("d", 32), 100},
		// All targets, and weights that are 0.
		{"1a0,3b0,5c0,7d0,9e0,11f0,13g0,15h0;0", 0, 16, "zazbzczdzezfzgzhz", 47}, // 8 of 17
		{"0-1a0,2-3b0,4-5c0,6-7d0,8-9e0,10-11f0,12-13g0,14-15h0;0", 1, 14, "abbccddeeffggh", 100},
	}
	for _, want := range wants {
		s := read(t, want.text)
		if table, ok := impl.TableFor(s, want.low, want.high); table != want.table || !ok {
			t.Errorf("TableFor(%q, %d, %d) = %q, %v, want %q", want.text, want.low, want.high, table, ok, want.table)
		}
		if got := impl.Density(s, want.low, want.high); got != want.density {
			t.Errorf("Density(%q, %d, %d) = %d, want %d", want.text, want.low, want.high, got, want.density)
		}
	}
}

// TestTablesHeldAgainstKeys holds the tables of all ranges against the targets of keys one by one.
func TestTablesHeldAgainstKeys(t *testing.T) {
	for _, s := range manySwitches(200) {
		text, all := impl.FormatSwitch(s), targetsByKey(s)
		for low := range impl.MaxKey + 1 {
			for high := low; high <= impl.MaxKey; high++ {
				table, ok := impl.TableFor(s, low, high)
				if table != all[low:high+1] || !ok {
					t.Fatalf("TableFor(%q, %d, %d) = %q, %v", text, low, high, table, ok)
				}
				if got, want := impl.Density(s, low, high), densityByHand(all[low:high+1]); got != want {
					t.Fatalf("Density(%q, %d, %d) = %d, want %d", text, low, high, got, want)
				}
				checkTable(t, table, low)
			}
		}
	}
}

// densityByHand returns the greatest percent that is not greater than that of keys with a case.
func densityByHand(table string) int {
	cases := len(table) - strings.Count(table, "z")
	percent := 0
	for (percent+1)*len(table) <= cases*100 {
		percent++
	}
	return percent
}

// checkTable reports a key that a table whose first target is that of low does not lead where it says.
func checkTable(t *testing.T, table string, low int) {
	t.Helper()
	for key := range impl.MaxKey + 1 {
		want := "z"
		if i := key - low; i >= 0 && i < len(table) {
			want = table[i : i+1]
		}
		if got, ok := impl.LookTable(table, low, key); got != want || !ok {
			t.Fatalf("LookTable(%q, %d, %d) = %q, %v, want %q", table, low, key, got, ok, want)
		}
	}
}

// checkNoLook reports a table that is not valid, or a number that is no key, but is looked up.
func checkNoLook(t *testing.T, table string, low, key int) {
	t.Helper()
	if got, ok := impl.LookTable(table, low, key); got != "" || ok {
		t.Errorf("LookTable(%.40q, %d, %d) = %q, %v", table, low, key, got, ok)
	}
}

func TestTablesOfNoKeys(t *testing.T) {
	for low := range impl.MaxKey + 1 {
		checkTable(t, "", low)
	}
	for _, low := range numbersThatAreNoKeys() {
		checkNoLook(t, "", low, 0)
		checkNoLook(t, "", low, low)
	}
	for _, key := range numbersThatAreNoKeys() {
		checkNoLook(t, "", 0, key)
	}
}

// TestTablesOfAllLengths has tables that just end with the last key, and that go on behind it.
func TestTablesOfAllLengths(t *testing.T) {
	letters := strings.Repeat("abcdefghz", 6)
	for low := range impl.MaxKey + 1 {
		for length := range len(letters) {
			if low+length <= impl.MaxKey+1 {
				checkTable(t, letters[:length], low)
				continue
			}
			for key := range impl.MaxKey + 1 {
				checkNoLook(t, letters[:length], low, key)
			}
		}
		checkNoLook(t, strings.Repeat("a", 1<<16), low, low)
	}
}

// TestBytesOfTables puts each byte at each place of a table, and has keys at that place and elsewhere.
func TestBytesOfTables(t *testing.T) {
	for b := range 256 {
		for place := range 5 {
			bytes := []byte("hzazb")
			bytes[place] = byte(b)
			table := string(bytes)
			if strings.IndexByte("abcdefghz", byte(b)) >= 0 {
				checkTable(t, table, 9)
				continue
			}
			for _, key := range []int{0, 8, 9, 10, 11, 12, 13, 14, 31} {
				checkNoLook(t, table, 9, key)
			}
		}
	}
	for _, table := range []string{"\u0161", "a\u0161", "a ", " a", "A", "aB", "a,b", "0", "a\x00", "\x00", "-", "(4a,z)"} {
		checkNoLook(t, table, 0, 0)
		checkNoLook(t, table, 9, 0)
	}
}

func TestTablesOfNumbersThatAreNoKeys(t *testing.T) {
	for _, number := range numbersThatAreNoKeys() {
		for _, table := range []string{"a", "abc", strings.Repeat("z", 32)} {
			checkNoLook(t, table, number, 0)
			checkNoLook(t, table, number, 31)
			checkNoLook(t, table, number, number)
			checkNoLook(t, table, 0, number)
		}
		for text, s := range validSwitches() {
			for _, key := range append(numbersThatAreNoKeys(), 0, 5, 31) {
				checkNoRange(t, text, s, number, key)
				checkNoRange(t, text, s, key, number)
			}
		}
	}
}

// checkNoRange reports a range that is not one, but has a table or a density.
func checkNoRange(t *testing.T, name string, s impl.Switch, low, high int) {
	t.Helper()
	if table, ok := impl.TableFor(s, low, high); table != "" || ok {
		t.Errorf("%s: TableFor(%d, %d) = %q, %v", name, low, high, table, ok)
	}
	if got := impl.Density(s, low, high); got != -1 {
		t.Errorf("%s: Density(%d, %d) = %d", name, low, high, got)
	}
}

func TestRangesThatEndAheadOfTheirStart(t *testing.T) {
	for text, s := range validSwitches() {
		for low := range impl.MaxKey + 1 {
			for high := range low {
				checkNoRange(t, text, s, low, high)
			}
		}
	}
}

func TestCasesThatLieDense(t *testing.T) {
	wants := []struct {
		text              string
		percent           int
		first, last, keys int // keys is the density of what is found
	}{
		{"0-3a5,7b2;1", 0, 0, 1, 62},
		{"0-3a5,7b2;1", 62, 0, 1, 62},
		{"0-3a5,7b2;1", 63, 0, 0, 100}, // 62.5 is less
		{"0-3a5,7b2;1", 100, 0, 0, 100},
		// A single case always has all keys of its own.
		{"31h1;0", 100, 0, 0, 100},
		{"0-31h1;0", 0, 0, 0, 100},
		{"4a1,6b1;0", 66, 0, 1, 66},
		{"4a1,6b1;0", 67, 0, 0, 100},
		{"0a1,31b1;0", 6, 0, 1, 6}, // 6.25
		{"0a1,31b1;0", 7, 0, 0, 100},
		// Cases without keys between them.
		{"0-15a1,16-31b1;0", 100, 0, 1, 100},
		{"9a0,10b0,11c0;0", 100, 0, 2, 100},
		// The most cases, not the most keys, and not the densest ones.
		{"0-9a1,20b1,21c1,22d1;0", 100, 1, 3, 100},
		{"0-9a1,11b1,20c1,22d1,24e1;0", 60, 2, 4, 60},
		{"0a1,1b1,3c1,9d1;0", 75, 0, 2, 75},
		// The first ones of as many.
		{"0a1,10b1,12c1;0", 50, 1, 2, 66},
		{"0a1,10b1,12c1;0", 23, 0, 2, 23},
		{"0a1,10b1,12c1;0", 24, 1, 2, 66},
		{"0a1,2b1,10c1,11d1;0", 60, 0, 1, 66},
		{"0a1,2b1,10c1,11d1;0", 67, 2, 3, 100},
		{"0a1,1b1,20c1,21d1;0", 100, 0, 1, 100},
		{"0a1,9b1,20c1;0", 90, 0, 0, 100},
		// More cases in the middle than on both sides.
		{"0a1,10b1,11c1,12d1,30e1;0", 100, 1, 3, 100},
		{"0a1,10b1,11c1,12d1,30e1;0", 31, 1, 3, 100}, // 4 of 13 is 30.8, which is less
		{"0a1,10b1,11c1,12d1,30e1;0", 30, 0, 3, 30},
	}
	for _, want := range wants {
		s := read(t, want.text)
		first, last, ok := impl.DenseCases(s, want.percent)
		if first != want.first || last != want.last || !ok {
			t.Errorf("DenseCases(%q, %d) = %d, %d, %v, want %d, %d", want.text, want.percent, first, last, ok, want.first, want.last)
			continue
		}
		if got := impl.Density(s, s.Cases[first].Low, s.Cases[last].High); got != want.keys {
			t.Errorf("Density of cases %d to %d of %q = %d, want %d", first, last, want.text, got, want.keys)
		}
	}
}

// denseByHand returns the first of the most cases that lie as dense as asked for, by all pairs of them.
func denseByHand(s impl.Switch, percent int) (int, int, bool) {
	bestFirst, bestLast, found := 0, 0, false
	all := targetsByKey(s)
	for first, a := range s.Cases {
		for last, b := range s.Cases {
			if last < first || densityByHand(all[a.Low:b.High+1]) < percent {
				continue
			}
			if !found || last-first > bestLast-bestFirst {
				bestFirst, bestLast, found = first, last, true
			}
		}
	}
	return bestFirst, bestLast, found
}

func TestDenseCasesHeldAgainstAllPairs(t *testing.T) {
	for _, s := range manySwitches(300) {
		for percent := range 101 {
			first, last, ok := impl.DenseCases(s, percent)
			wantFirst, wantLast, want := denseByHand(s, percent)
			if first != wantFirst || last != wantLast || ok != want {
				t.Fatalf("DenseCases(%q, %d) = %d, %d, %v, want %d, %d, %v", impl.FormatSwitch(s), percent, first, last, ok, wantFirst, wantLast, want)
			}
		}
	}
}

// checkNotDense reports cases that are found where there are to be none.
func checkNotDense(t *testing.T, name string, s impl.Switch, percent int) {
	t.Helper()
	if first, last, ok := impl.DenseCases(s, percent); first != 0 || last != 0 || ok {
		t.Errorf("%s: DenseCases(%d) = %d, %d, %v", name, percent, first, last, ok)
	}
}

func TestNoDenseCases(t *testing.T) {
	for text, s := range validSwitches() {
		for _, percent := range []int{math.MinInt, -100, -1, 101, 102, 200, 356, 1 << 32, math.MaxInt} {
			checkNotDense(t, text, s, percent)
		}
	}
	for percent := range 101 {
		checkNotDense(t, "no cases", impl.Switch{Rest: 9}, percent)
	}
}

func TestPagesThatDiffer(t *testing.T) {
	wants := []struct {
		text  string
		size  int
		pages string
		index []int
	}{
		{"0-3a5,7b2;1", 1, "a z b", []int{0, 0, 0, 0, 1, 1, 1, 2, 1, 1, 1, 1, 1, 1, 1, 1, 1, 1, 1, 1, 1, 1, 1, 1, 1, 1, 1, 1, 1, 1, 1, 1}},
		{"0-3a5,7b2;1", 2, "aa zz zb", []int{0, 0, 1, 2, 1, 1, 1, 1, 1, 1, 1, 1, 1, 1, 1, 1}},
		{"0-3a5,7b2;1", 4, "aaaa zzzb zzzz", []int{0, 1, 2, 2, 2, 2, 2, 2}},
		{"0-3a5,7b2;1", 8, "aaaazzzb zzzzzzzz", []int{0, 1, 1, 1}},
		{"0-3a5,7b2;1", 16, "aaaazzzbzzzzzzzz zzzzzzzzzzzzzzzz", []int{0, 1}},
		{"0-3a5,7b2;1", 32, "aaaazzzbzzzzzzzzzzzzzzzzzzzzzzzz", []int{0}},
		// Pages that are all the same.
		{";0", 1, "z", make([]int, 32)},
		{";0", 2, "zz", make([]int, 16)},
		{";0", 4, "zzzz", make([]int, 8)},
		{";0", 8, "zzzzzzzz", make([]int, 4)},
		{";0", 16, "zzzzzzzzzzzzzzzz", make([]int, 2)},
		{";0", 32, "zzzzzzzzzzzzzzzzzzzzzzzzzzzzzzzz", make([]int, 1)},
		{"0-31h9;0", 4, "hhhh", make([]int, 8)},
		{"0-15c9,16-31c1;0", 16, "cccccccccccccccc", make([]int, 2)},
		{"0a1,4a1,8a1,12a1,16a1,20a1,24a1,28a1;0", 4, "azzz", make([]int, 8)},
		{"3-4h1,11-12h1,19-20h1,27-28h1;5", 8, "zzzhhzzz", make([]int, 4)},
		{"1-2d1,17-18d1;0", 16, "zddzzzzzzzzzzzzz", make([]int, 2)},
		// Pages that come again, though not right behind themselves.
		{"0-3a1,8-11a1;0", 4, "aaaa zzzz", []int{0, 1, 0, 1, 1, 1, 1, 1}},
		{"0-3a1,8-11a1,16-19a1,24-27a1;0", 8, "aaaazzzz", []int{0, 0, 0, 0}},
		{"0-7b1,8-15a1,16-23b1,24-31a1;0", 8, "bbbbbbbb aaaaaaaa", []int{0, 1, 0, 1}},
		{"0-7b1,8-15a1,16-23b1,24-31c1;0", 8, "bbbbbbbb aaaaaaaa cccccccc", []int{0, 1, 0, 2}},
		{"8-15a1,24-31a1;0", 8, "zzzzzzzz aaaaaaaa", []int{0, 1, 0, 1}},
		// Pages that differ in the last target only, or in the first one.
		{"0-2a1,3b1,4-7a1;0", 4, "aaab aaaa zzzz", []int{0, 1, 2, 2, 2, 2, 2, 2}},
		{"0-7a1,8b1,9-15a1;0", 8, "aaaaaaaa baaaaaaa zzzzzzzz", []int{0, 1, 2, 2}},
		{"31a1;0", 16, "zzzzzzzzzzzzzzzz zzzzzzzzzzzzzzza", []int{0, 1}},
		{"31a1;0", 2, "zz za", []int{0, 0, 0, 0, 0, 0, 0, 0, 0, 0, 0, 0, 0, 0, 0, 1}},
		// The same targets in another order.
		{"0a1,1b1,2b1,3a1;0", 2, "ab ba zz", []int{0, 1, 2, 2, 2, 2, 2, 2, 2, 2, 2, 2, 2, 2, 2, 2}},
		// All targets.
		{"0-1a1,2-3b1,4-5c1,6-7d1,8-9e1,10-11f1,12-13g1,14-31h1;0", 2, "aa bb cc dd ee ff gg hh",
			[]int{0, 1, 2, 3, 4, 5, 6, 7, 7, 7, 7, 7, 7, 7, 7, 7}},
		{"0-1a1,2-3b1,4-5c1,6-7d1,8-9e1,10-11f1,12-13g1,14-31h1;0", 4, "aabb ccdd eeff gghh hhhh", []int{0, 1, 2, 3, 4, 4, 4, 4}},
	}
	for _, want := range wants {
		pages, index, ok := impl.PagesOf(read(t, want.text), want.size)
		if strings.Join(pages, " ") != want.pages || !slices.Equal(index, want.index) || !ok {
			t.Errorf("PagesOf(%q, %d) = %q, %v, %v, want %q, %v", want.text, want.size, pages, index, ok, want.pages, want.index)
		}
	}
}

func TestSizesOfPages(t *testing.T) {
	wants := []struct {
		text  string
		sizes []int // of all pages and their index, by the sizes of pages
		best  int
	}{
		{"0-3a5,7b2;1", []int{35, 22, 20, 20, 34, 33}, 4}, // 8 has as few
		{";0", []int{33, 18, 12, 12, 18, 33}, 4},
		{"0-31h1;0", []int{33, 18, 12, 12, 18, 33}, 4},
		{"31h1;0", []int{34, 20, 16, 20, 34, 33}, 4},
		{"8-15a1,24-31a1;0", []int{34, 20, 16, 20, 18, 33}, 4},
		{"0-7a1,16-23a1;0", []int{34, 20, 16, 20, 18, 33}, 4},
		// Others than the size 4.
		{"0a1,8a1,16a1,24a1;0", []int{34, 20, 16, 12, 18, 33}, 8},
		{"0a1,2b1,4c1,6d1,8e1,10f1,12g1,14h1;0", []int{41, 34, 28, 28, 34, 33}, 4},
		{"1a1,2a1,7a1,8a1,17a1,18a1,23a1,24a1;0", []int{34, 22, 24, 20, 18, 33}, 16},
		{"1a1,2b1,7c1,8d1,13e1,14f1,19g1,28h1;0", []int{41, 34, 36, 36, 34, 33}, 32},
		{"0-1a1,2-3b1,6-7c1,10-11d1,14-15e1,20-21f1,22-23g1,26-27h1;0", []int{41, 34, 36, 36, 34, 33}, 32},
		{"0-1a1,4-5b1,8-9a1,12-13b1,18-19a1,22-23b1,26-27a1,30-31b1;0", []int{35, 22, 24, 20, 34, 33}, 8},
		{"0-1a1,4-5b1,8-9b1,12-13a1,18-19a1,22-23b1,26-27b1,30-31a1;0", []int{35, 22, 24, 36, 34, 33}, 2},
		{"0-1a1,4-5b1,8-9c1,12-13d1,18-19a1,22-23b1,26-27c1,30-31d1;0", []int{37, 26, 40, 36, 34, 33}, 2},
	}
	for _, want := range wants {
		s := read(t, want.text)
		for i, size := range sizesOfPages {
			if got := impl.PagedSize(s, size); got != want.sizes[i] {
				t.Errorf("PagedSize(%q, %d) = %d, want %d", want.text, size, got, want.sizes[i])
			}
		}
		if got := impl.BestPage(s); got != want.best {
			t.Errorf("BestPage(%q) = %d, want %d", want.text, got, want.best)
		}
	}
}

// pagesByHand returns pages of targets that differ, and for each page in order the index of the one that it is.
func pagesByHand(all string, size int) ([]string, []int) {
	var pages []string
	var index []int
	for ; all != ""; all = all[size:] {
		if !slices.Contains(pages, all[:size]) {
			pages = append(pages, all[:size])
		}
		index = append(index, slices.Index(pages, all[:size]))
	}
	return pages, index
}

func TestPagesOfManySwitches(t *testing.T) {
	for _, s := range manySwitches(1000) {
		text, all := impl.FormatSwitch(s), targetsByKey(s)
		best, least := 0, math.MaxInt
		for _, size := range sizesOfPages {
			pages, index, ok := impl.PagesOf(s, size)
			wantPages, wantIndex := pagesByHand(all, size)
			if !slices.Equal(pages, wantPages) || !slices.Equal(index, wantIndex) || !ok {
				t.Fatalf("PagesOf(%q, %d) = %q, %v, %v, want %q, %v", text, size, pages, index, ok, wantPages, wantIndex)
			}
			entries := len(strings.Join(wantPages, "")) + len(wantIndex)
			if got := impl.PagedSize(s, size); got != entries {
				t.Fatalf("PagedSize(%q, %d) = %d, want %d", text, size, got, entries)
			}
			if entries < least {
				best, least = size, entries
			}
			checkPages(t, pages, index, all)
		}
		if got := impl.BestPage(s); got != best {
			t.Fatalf("BestPage(%q) = %d, want %d", text, got, best)
		}
	}
}

// checkPages reports a key that pages do not lead to its target, by the targets of all keys.
func checkPages(t *testing.T, pages []string, index []int, all string) {
	t.Helper()
	for key := range impl.MaxKey + 1 {
		if got, ok := impl.LookPages(pages, index, key); got != all[key:key+1] || !ok {
			t.Fatalf("LookPages(%q, %v, %d) = %q, %v, want %q", pages, index, key, got, ok, all[key:key+1])
		}
	}
}

// checkNoPages reports pages that are wrong, but lead a key somewhere.
func checkNoPages(t *testing.T, pages []string, index []int) {
	t.Helper()
	for key := -1; key <= impl.MaxKey+1; key++ {
		if got, ok := impl.LookPages(pages, index, key); got != "" || ok {
			t.Errorf("LookPages(%.80q, %v, %d) = %q, %v", pages[:min(len(pages), 9)], index[:min(len(index), 40)], key, got, ok)
			return
		}
	}
}

// TestPagesThatNoSwitchHas has pages that come twice, that no number is the index of, and of more cases than a switch has.
func TestPagesThatNoSwitchHas(t *testing.T) {
	checkPages(t, []string{"abcdefgh", "abcdefgh", "zzzzzzzz"}, []int{1, 0, 1, 0}, strings.Repeat("abcdefgh", 4))
	checkPages(t, []string{"abcdefgh", "hgfedcba", "azazazaz", "zazazaza"}, []int{3, 3, 1, 0}, "zazazazazazazazahgfedcbaabcdefgh")
	checkPages(t, []string{"ab", "bz", "za"}, []int{2, 1, 0, 0, 1, 2, 2, 2, 2, 2, 2, 2, 2, 2, 2, 1}, "zabzababbz"+strings.Repeat("za", 10)+"bz")
	checkPages(t, []string{"a", "b", "c", "d", "e", "f", "g", "h", "z"},
		[]int{8, 7, 6, 5, 4, 3, 2, 1, 0, 1, 2, 3, 4, 5, 6, 7, 8, 8, 8, 8, 7, 7, 7, 7, 0, 0, 0, 0, 3, 3, 3, 4},
		"zhgfedcbabcdefghzzzzhhhhaaaaddde")
	checkPages(t, []string{"zzzzzzzzzzzzzzzz", "abcdefghabcdefgh"}, []int{1, 0}, "abcdefghabcdefghzzzzzzzzzzzzzzzz")
	checkPages(t, []string{"hgfedcbahgfedcbazzzzzzzzabcdefgh"}, []int{0}, "hgfedcbahgfedcbazzzzzzzzabcdefgh")
	// More pages than there are pages of all keys.
	many := slices.Repeat([]string{"abababab"}, 100)
	checkPages(t, append(many, "zzzzzzzz"), []int{100, 99, 0, 100}, "zzzzzzzzababababababababzzzzzzzz")
}

func TestPagesOfWrongSizes(t *testing.T) {
	s := read(t, "0-3a5,7b2;1")
	for size := -1; size <= 70; size++ {
		valid := slices.Contains(sizesOfPages, size)
		pages, index, ok := impl.PagesOf(s, size)
		if ok != valid || !valid && (len(pages) != 0 || len(index) != 0) {
			t.Errorf("PagesOf(%d) = %q, %v, %v", size, pages, index, ok)
		}
		if got := impl.PagedSize(s, size); (got == -1) == valid {
			t.Errorf("PagedSize(%d) = %d", size, got)
		}
		if size < 0 {
			continue
		}
		// Pages of the same length, with an index of all lengths.
		page := strings.Repeat("z", size)
		for length := range 70 {
			if valid && length*size == impl.MaxKey+1 {
				checkPages(t, []string{page}, make([]int, length), strings.Repeat("z", impl.MaxKey+1))
			} else {
				checkNoPages(t, []string{page}, make([]int, length))
			}
		}
	}
	for _, size := range []int{math.MinInt, -32, -4, -2, 64, 256 + 4, 1<<32 + 4, math.MaxInt} {
		if pages, index, ok := impl.PagesOf(s, size); len(pages) != 0 || len(index) != 0 || ok || impl.PagedSize(s, size) != -1 {
			t.Errorf("PagesOf(%d) = %q, %v, %v", size, pages, index, ok)
		}
	}
}

func TestPagesThatAreWrong(t *testing.T) {
	index := []int{0, 1, 0, 1}
	for name, pages := range map[string][]string{
		"none":           nil,
		"no length":      {"", ""},
		"first short":    {"aaaaaaa", "zzzzzzzz"},
		"second short":   {"aaaaaaaa", "zzzzzzz"},
		"first long":     {"aaaaaaaaa", "zzzzzzzz"},
		"second long":    {"aaaaaaaa", "zzzzzzzzz"},
		"half":           {"aaaaaaaa", "zzzz"},
		"twice as long":  {"aaaaaaaa", "zzzzzzzzzzzzzzzz"},
		"second empty":   {"aaaaaaaa", ""},
		"first empty":    {"", "zzzzzzzz"},
		"unused empty":   {"aaaaaaaa", "zzzzzzzz", ""},
		"unused short":   {"aaaaaaaa", "zzzzzzzz", "bbbb"},
		"unused long":    {"aaaaaaaa", "zzzzzzzz", "bbbbbbbbbbbbbbbb"},
		"unused no page": {"aaaaaaaa", "zzzzzzzz", "bbbbbbbi"},
		"other size":     {"aaaa", "zzzz"},
		"greater size":   {"aaaaaaaaaaaaaaaa", "zzzzzzzzzzzzzzzz"},
		"all keys":       {strings.Repeat("a", 32), strings.Repeat("z", 32)},
		"too long":       {strings.Repeat("a", 64), strings.Repeat("z", 64)},
		"far too long":   {strings.Repeat("a", 1<<16), strings.Repeat("z", 1<<16)},
		"one is missing": {"aaaaaaaa"},
	} {
		t.Run(name, func(t *testing.T) { checkNoPages(t, pages, index) })
	}
	checkPages(t, []string{"aaaaaaaa", "zzzzzzzz"}, index, "aaaaaaaazzzzzzzzaaaaaaaazzzzzzzz")
	// Without any pages, no index is right.
	checkNoPages(t, nil, nil)
	checkNoPages(t, nil, make([]int, 32))
	checkNoPages(t, []string{""}, nil)
	checkNoPages(t, []string{"aaaa"}, nil)
}

func TestBytesOfPages(t *testing.T) {
	index := []int{0, 1, 0, 1, 0, 1, 1, 1}
	for b := range 256 {
		for place := range 12 {
			bytes := []byte("abghzzzzhgba")
			bytes[place] = byte(b)
			pages := []string{string(bytes[:4]), string(bytes[4:8]), string(bytes[8:])}
			if strings.IndexByte("abcdefghz", byte(b)) < 0 {
				checkNoPages(t, pages, index)
				continue
			}
			var all string
			for _, i := range index {
				all += pages[i]
			}
			checkPages(t, pages, index, all)
		}
	}
}

func TestIndicesOfPagesThatAreWrong(t *testing.T) {
	s := read(t, "0-3a5,7b2;1")
	for _, size := range sizesOfPages {
		pages, index, _ := impl.PagesOf(s, size)
		checkNoPages(t, pages, index[1:])
		checkNoPages(t, pages, index[:len(index)-1])
		checkNoPages(t, pages, append(slices.Clone(index), 0))
		checkNoPages(t, pages, slices.Repeat(index, 2))
		checkNoPages(t, pages[:len(pages)-1], index)
		for place := range index {
			for _, wrong := range []int{math.MinInt, -len(pages), -1, len(pages), len(pages) + 1, 256, 1 << 32, math.MaxInt} {
				altered := slices.Clone(index)
				altered[place] = wrong
				checkNoPages(t, pages, altered)
			}
		}
	}
}

func TestPagesOfNumbersThatAreNoKeys(t *testing.T) {
	for _, size := range sizesOfPages {
		pages, index, _ := impl.PagesOf(read(t, "0-3a5,7b2;1"), size)
		for _, key := range numbersThatAreNoKeys() {
			if got, ok := impl.LookPages(pages, index, key); got != "" || ok {
				t.Errorf("LookPages(%q, %v, %d) = %q, %v", pages, index, key, got, ok)
			}
		}
	}
}

func TestNoTablesOfSwitchesThatAreNotValid(t *testing.T) {
	for name, s := range wrongSwitches() {
		for _, keys := range [][2]int{{0, 31}, {0, 0}, {2, 5}, {31, 31}, {5, 2}, {-1, 0}, {0, 32}} {
			checkNoRange(t, name, s, keys[0], keys[1])
		}
		for _, percent := range []int{-1, 0, 50, 100, 101} {
			checkNotDense(t, name, s, percent)
		}
		for _, size := range append([]int{-1, 0, 3, 64}, sizesOfPages...) {
			if pages, index, ok := impl.PagesOf(s, size); len(pages) != 0 || len(index) != 0 || ok {
				t.Errorf("%s: PagesOf(%d) = %q, %v, %v", name, size, pages, index, ok)
			}
			if got := impl.PagedSize(s, size); got != -1 {
				t.Errorf("%s: PagedSize(%d) = %d", name, size, got)
			}
		}
		if got := impl.BestPage(s); got != -1 {
			t.Errorf("%s: BestPage = %d", name, got)
		}
	}
}

// useTables calls every function of the chapter that takes a switch.
func useTables(s impl.Switch) {
	impl.TableFor(s, 2, 8)
	impl.Density(s, 2, 8)
	impl.DenseCases(s, 50)
	for _, size := range sizesOfPages {
		impl.PagesOf(s, size)
		impl.PagedSize(s, size)
	}
	impl.BestPage(s)
}

func TestTablesLeaveArgumentsAsTheyAre(t *testing.T) {
	for _, text := range []string{"0-3a5,7b2;1", "0-15a1,16-31a2;0", ";7"} {
		checkStays(t, read(t, text), useTables)
	}
	for _, index := range [][]int{{0, 1, 2, 2, 2, 2, 2, 2}, {0, 1, 2, 3, 2, 2, 2, 2}, {2, 1}, {}} {
		numbers := append(slices.Clone(index), 77, 78)
		pages := []string{"aaaa", "zzzb", "zzzz", "mark", "mark"}
		numbersBefore, pagesBefore := slices.Clone(numbers), slices.Clone(pages)
		for key := range impl.MaxKey + 1 {
			impl.LookPages(pages[:3], numbers[:len(index)], key)
		}
		if !slices.Equal(numbers, numbersBefore) || !slices.Equal(pages, pagesBefore) {
			t.Errorf("pages have become %q, %v, were %q, %v", pages, numbers, pagesBefore, numbersBefore)
		}
	}
}

func TestPagesShareNoMemory(t *testing.T) {
	s := read(t, "0-3a5,7b2;1")
	for _, size := range sizesOfPages {
		onePages, oneIndex, _ := impl.PagesOf(s, size)
		twoPages, twoIndex, _ := impl.PagesOf(s, size)
		wantPages, wantIndex := slices.Clone(twoPages), slices.Clone(twoIndex)
		fill(onePages, "mark")
		fill(oneIndex, 77)
		if !slices.Equal(twoPages, wantPages) || !slices.Equal(twoIndex, wantIndex) {
			t.Errorf("PagesOf has become %q, %v, was %q, %v", twoPages, twoIndex, wantPages, wantIndex)
		}
		if slices.Contains(twoPages[:cap(twoPages)], "mark") || slices.Contains(twoIndex[:cap(twoIndex)], 77) {
			t.Errorf("PagesOf(%d) shares memory behind its length", size)
		}
		again, index, _ := impl.PagesOf(s, size)
		if !slices.Equal(again, wantPages) || !slices.Equal(index, wantIndex) {
			t.Errorf("PagesOf keeps %q, %v", again, index)
		}
	}
}
