package tests

import (
	"math"
	"slices"
	"strings"
	"testing"

	"loop.example/keyswitches/impl"
)

// A cut tells what is to come of the segments of a switch.
type cut struct {
	text, segments, merged string
	borders                []int
	gaps                   int
}

// cuts returns switches and what is to come of their segments.
func cuts() []cut {
	return []cut{
		// The document's example.
		{"0-3a5,7b2;1", "0-3a5 4-6z1 7b2 8-31z1", "0-3a5,7b2;1", []int{4, 7, 8}, 2},
		// The document's example of the desk.
		{"0a1,1a1,2b5,9b1;2", "0a1 1a1 2b5 3-8z2 9b1 10-31z2", "0-1a2,2b5,9b1;2", []int{2, 3, 9, 10}, 2},
		// No cases at all.
		{";0", "0-31z0", ";0", nil, 1},
		{";99", "0-31z99", ";99", nil, 1},
		// Gaps ahead of all cases, of one key and of several.
		{"1-31a2;3", "0z3 1-31a2", "1-31a2;3", []int{1}, 1},
		{"5-31c2;3", "0-4z3 5-31c2", "5-31c2;3", []int{5}, 1},
		{"31h4;7", "0-30z7 31h4", "31h4;7", []int{31}, 1},
		{"1a1,2a2,3b1,5b1;9", "0z9 1a1 2a2 3b1 4z9 5b1 6-31z9", "1-2a3,3b1,5b1;9", []int{1, 3, 4, 5, 6}, 3},
		// Gaps behind all cases, of one key and of several.
		{"0-30a2;3", "0-30a2 31z3", "0-30a2;3", []int{31}, 1},
		{"0h4;7", "0h4 1-31z7", "0h4;7", []int{1}, 1},
		// Gaps between cases, and on all sides.
		{"0-9a1,11-31a1;0", "0-9a1 10z0 11-31a1", "0-9a1,11-31a1;0", []int{10, 11}, 1},
		{"1a1,3b1,5c1,7d1,9e1,11f1,13g1,15h1;4", "0z4 1a1 2z4 3b1 4z4 5c1 6z4 7d1 8z4 9e1 10z4 11f1 12z4 13g1 14z4 15h1 16-31z4",
			"1a1,3b1,5c1,7d1,9e1,11f1,13g1,15h1;4", []int{1, 2, 3, 4, 5, 6, 7, 8, 9, 10, 11, 12, 13, 14, 15, 16}, 9},
		// Cases that have all keys.
		{"0-31h99;99", "0-31h99", "0-31h99;99", nil, 0},
		{"0-15a1,16-31a2;0", "0-15a1 16-31a2", "0-31a3;0", nil, 0},
		{"0-15b1,16-31a1;5", "0-15b1 16-31a1", "0-15b1,16-31a1;5", []int{16}, 0},
		{"0-24h0,25g0,26f0,27e0,28d0,29c0,30b0,31a0;1", "0-24h0 25g0 26f0 27e0 28d0 29c0 30b0 31a0",
			"0-24h0,25g0,26f0,27e0,28d0,29c0,30b0,31a0;1", []int{25, 26, 27, 28, 29, 30, 31}, 0},
		{"0-3a1,4-7a1,8-11b1,12-15b1,16-19a1,20-23a1,24-27c1,28-31c1;1", "0-3a1 4-7a1 8-11b1 12-15b1 16-19a1 20-23a1 24-27c1 28-31c1",
			"0-7a2,8-15b2,16-23a2,24-31c2;1", []int{8, 16, 24}, 0},
		// Neighbours whose weights are just not too great together, and just too great.
		{"4a60,5a39;2", "0-3z2 4a60 5a39 6-31z2", "4-5a99;2", []int{4, 6}, 2},
		{"4a60,5a40;2", "0-3z2 4a60 5a40 6-31z2", "4a60,5a40;2", []int{4, 6}, 2},
		{"0-15a99,16-31a99;0", "0-15a99 16-31a99", "0-15a99,16-31a99;0", nil, 0},
		// One that is too heavy for the last one takes the next ones itself.
		{"1a60,2a60,3a20;0", "0z0 1a60 2a60 3a20 4-31z0", "1a60,2-3a80;0", []int{1, 4}, 2},
		// The first ones that go together do, not those with which fewer cases are left or weights are even.
		{"0a50,1a40,2a50,3a40,4a9;0", "0a50 1a40 2a50 3a40 4a9 5-31z0", "0-1a90,2-4a99;0", []int{5}, 1},
		{"0a33,1a33,2a33,3a1,4a98,5a1;0", "0a33 1a33 2a33 3a1 4a98 5a1 6-31z0", "0-2a99,3-4a99,5a1;0", []int{6}, 1},
		// One of no weight goes with the last one, also if that is full.
		{"0a99,1a0,2a1,3a0;0", "0a99 1a0 2a1 3a0 4-31z0", "0-1a99,2-3a1;0", []int{4}, 1},
		// Neighbours go together only with the same target, and only without keys between them.
		{"0a1,1b1,2a1;0", "0a1 1b1 2a1 3-31z0", "0a1,1b1,2a1;0", []int{1, 2, 3}, 1},
		{"0a1,2a1,3a1;0", "0a1 1z0 2a1 3a1 4-31z0", "0a1,2-3a2;0", []int{1, 2, 4}, 2},
		{"0a1,1a1,2a1,3a1,4a1,5a1,6a1,7a1;0", "0a1 1a1 2a1 3a1 4a1 5a1 6a1 7a1 8-31z0", "0-7a8;0", []int{8}, 1},
	}
}

func TestSegmentsOfSwitches(t *testing.T) {
	for _, want := range cuts() {
		s := read(t, want.text)
		if list, ok := impl.SegmentsOf(s); impl.FormatSegments(list) != want.segments || !ok {
			t.Errorf("SegmentsOf(%q) = %q, %v, want %q", want.text, impl.FormatSegments(list), ok, want.segments)
		}
		if got := impl.CountGaps(s); got != want.gaps {
			t.Errorf("CountGaps(%q) = %d, want %d", want.text, got, want.gaps)
		}
		if got := impl.IsComplete(s); got != (want.gaps == 0) {
			t.Errorf("IsComplete(%q) = %v", want.text, got)
		}
		if got, ok := impl.BordersOf(s); !slices.Equal(got, want.borders) || !ok {
			t.Errorf("BordersOf(%q) = %v, %v, want %v", want.text, got, ok, want.borders)
		}
	}
}

func TestNeighboursAreMerged(t *testing.T) {
	for _, want := range cuts() {
		s := read(t, want.text)
		merged, ok := impl.MergeCases(s)
		if got := impl.FormatSwitch(merged); got != want.merged || !ok {
			t.Errorf("MergeCases(%q) = %q, %v, want %q", want.text, got, ok, want.merged)
		}
		if !impl.SameTargets(s, merged) || impl.TotalWeight(merged) != impl.TotalWeight(s) {
			t.Errorf("MergeCases(%q) = %q: other targets or weights", want.text, impl.FormatSwitch(merged))
		}
	}
}

func TestTextsOfSegments(t *testing.T) {
	wants := []struct {
		text string
		list []impl.Case
	}{
		{"-", nil},
		{"-", []impl.Case{}},
		{"0z0", []impl.Case{{Low: 0, High: 0, Target: "z", Weight: 0}}},
		{"0-31a99", []impl.Case{{Low: 0, High: 31, Target: "a", Weight: 99}}},
		{"0-3a5 4-6z1 7b2", []impl.Case{{Low: 0, High: 3, Target: "a", Weight: 5}, {Low: 4, High: 6, Target: "z", Weight: 1}, {Low: 7, High: 7, Target: "b", Weight: 2}}},
		// Segments need not be those of a switch.
		{"9c1 2-4c1 9c1", []impl.Case{{Low: 9, High: 9, Target: "c", Weight: 1}, {Low: 2, High: 4, Target: "c", Weight: 1}, {Low: 9, High: 9, Target: "c", Weight: 1}}},
		{"-2--1q-3", []impl.Case{{Low: -2, High: -1, Target: "q", Weight: -3}}},
		{"5-2a100", []impl.Case{{Low: 5, High: 2, Target: "a", Weight: 100}}},
		{"00 00", make([]impl.Case, 2)},
		{"-9223372036854775808-9223372036854775807\xff 1",
			[]impl.Case{{Low: math.MinInt, High: math.MaxInt, Target: "\xff ", Weight: 1}}},
	}
	for _, want := range wants {
		if got := impl.FormatSegments(want.list); got != want.text {
			t.Errorf("FormatSegments(%v) = %q, want %q", want.list, got, want.text)
		}
	}
}

func TestFirstKeyWithOtherTargets(t *testing.T) {
	wants := []struct {
		a, b string
		key  int
	}{
		{";0", ";99", -1},
		{"0-3a5;1", "0-2a5,3b1;1", 3},
		{"0-3a5;1", "0a1,1-3a1;7", -1},
		{"0-3a5,7b2;1", "0-3a5,7b2;1", -1},
		{"0-3a5,7b2;1", "0-3a5,7-8b2;1", 8},
		{"0-3a5,7b2;1", "0-3a5,7c2;1", 7},
		{"0-3a5,7b2;1", "0-3a5,6-7b2;1", 6},
		{"0-3a5,7b2;1", "0-3a5;1", 7},
		{"0-31a0;0", ";0", 0},
		{"31a0;0", ";0", 31},
		{"0-30a0;0", "0-31a0;0", 31},
		{"0-31a0;0", "0-15a0,16-31b0;0", 16},
		{"0-31a0;0", "0-15a50,16-31a50;9", -1},
		{"0-7a1,8-15a1,16-31b1;0", "0-3a1,4-15a1,16-20b1,21-31b1;0", -1},
		{"0-7a1,8-15a1,16-31b1;0", "0-3a1,4-15a1,16-20b1,21-30b1;0", 31},
		{"0a1,2a1;0", "0-2a1;0", 1},
		// The first of several.
		{"1a1,5b1,9c1;0", "5c1,9b1;0", 1},
		{"1a1,5b1,9c1;0", "1a1,5c1,9b1;0", 5},
	}
	for _, want := range wants {
		for _, pair := range [][2]string{{want.a, want.b}, {want.b, want.a}} {
			a, b := read(t, pair[0]), read(t, pair[1])
			if got := impl.FirstOther(a, b); got != want.key {
				t.Errorf("FirstOther(%q, %q) = %d, want %d", pair[0], pair[1], got, want.key)
			}
			if got := impl.SameTargets(a, b); got != (want.key == -1) {
				t.Errorf("SameTargets(%q, %q) = %v", pair[0], pair[1], got)
			}
		}
	}
}

func TestNoSegmentsOfSwitchesThatAreNotValid(t *testing.T) {
	for name, s := range wrongSwitches() {
		if list, ok := impl.SegmentsOf(s); len(list) != 0 || ok {
			t.Errorf("%s: SegmentsOf = %v, %v", name, list, ok)
		}
		if merged, ok := impl.MergeCases(s); len(merged.Cases) != 0 || merged.Rest != 0 || ok {
			t.Errorf("%s: MergeCases = %v, %v", name, merged, ok)
		}
		if borders, ok := impl.BordersOf(s); len(borders) != 0 || ok {
			t.Errorf("%s: BordersOf = %v, %v", name, borders, ok)
		}
		if got := impl.CountGaps(s); got != -1 {
			t.Errorf("%s: CountGaps = %d", name, got)
		}
		if impl.IsComplete(s) {
			t.Errorf("%s: IsComplete = true", name)
		}
		checkNotHeld(t, name, s, s)
		for _, other := range validSwitches() {
			checkNotHeld(t, name, s, other)
			checkNotHeld(t, name, other, s)
		}
	}
}

// checkNotHeld reports two switches, not both valid, that are held against each other.
func checkNotHeld(t *testing.T, name string, a, b impl.Switch) {
	t.Helper()
	if got := impl.FirstOther(a, b); got != -1 {
		t.Errorf("%s: FirstOther(%v, %v) = %d", name, a, b, got)
	}
	if impl.SameTargets(a, b) {
		t.Errorf("%s: SameTargets(%v, %v) = true", name, a, b)
	}
}

// manySwitches returns switches of all kinds, the same ones each time.
func manySwitches(count int) []impl.Switch {
	state := uint32(1)
	below := func(n int) int {
		state = state*1664525 + 1013904223
		return int(state>>8) % n
	}
	var list []impl.Switch
	for range count {
		s := impl.Switch{Rest: below(impl.MaxWeight + 1)}
		// Other bounds for each switch, so that some have neighbours with one target, and some all keys.
		targets, width, space, weight := 1+below(8), 1+below(16), 1+below(4), 1+below(impl.MaxWeight+1)
		for low := below(space); low <= impl.MaxKey && len(s.Cases) < impl.MaxCases; {
			high := min(low+below(width), impl.MaxKey)
			s.Cases = append(s.Cases, impl.Case{Low: low, High: high, Target: string(rune('a' + below(targets))), Weight: below(weight)})
			low = high + 1 + below(space)
		}
		list = append(list, s)
	}
	return list
}

// targetsByKey returns the targets of all keys, one behind the other.
func targetsByKey(s impl.Switch) string {
	var all strings.Builder
	for key := range impl.MaxKey + 1 {
		target, _ := impl.TargetOf(s, key)
		all.WriteString(target)
	}
	return all.String()
}

// TestSegmentsHaveAllKeys holds segments of many switches against their keys one by one.
func TestSegmentsHaveAllKeys(t *testing.T) {
	complete := 0
	for _, s := range manySwitches(5000) {
		text := impl.FormatSwitch(s)
		list, ok := impl.SegmentsOf(s)
		if !ok || len(list) == 0 {
			t.Fatalf("SegmentsOf(%q) = %v, %v", text, list, ok)
		}
		next, gaps, cases := 0, 0, []impl.Case{}
		for i, c := range list {
			if c.Low != next || c.High < c.Low {
				t.Fatalf("SegmentsOf(%q) = %q: not each key once", text, impl.FormatSegments(list))
			}
			next = c.High + 1
			if c.Target != "z" {
				cases = append(cases, c)
				continue
			}
			gaps++
			if c.Weight != s.Rest || i > 0 && list[i-1].Target == "z" {
				t.Fatalf("SegmentsOf(%q) = %q: wrong gaps", text, impl.FormatSegments(list))
			}
		}
		if next != impl.MaxKey+1 || !slices.Equal(cases, s.Cases) {
			t.Fatalf("SegmentsOf(%q) = %q: not all keys or cases", text, impl.FormatSegments(list))
		}
		if gaps == 0 {
			complete++
		}
		if impl.CountGaps(s) != gaps || impl.IsComplete(s) != (gaps == 0) {
			t.Fatalf("CountGaps(%q) = %d, IsComplete = %v, want %d", text, impl.CountGaps(s), impl.IsComplete(s), gaps)
		}
	}
	if complete == 0 {
		t.Error("no switch that has all keys was tried")
	}
}

func TestBordersHeldAgainstKeys(t *testing.T) {
	for _, s := range manySwitches(5000) {
		targets := targetsByKey(s)
		var want []int
		for key := 1; key <= impl.MaxKey; key++ {
			if targets[key] != targets[key-1] {
				want = append(want, key)
			}
		}
		if got, ok := impl.BordersOf(s); !slices.Equal(got, want) || !ok {
			t.Fatalf("BordersOf(%q) = %v, %v, want %v", impl.FormatSwitch(s), got, ok, want)
		}
	}
}

func TestPairsHeldAgainstKeys(t *testing.T) {
	list := manySwitches(2000)
	for i, a := range list {
		for _, b := range []impl.Switch{a, list[(i+1)%len(list)], list[(i+7)%len(list)], altered(a, i)} {
			one, two := targetsByKey(a), targetsByKey(b)
			want := -1
			for key := impl.MaxKey; key >= 0; key-- {
				if one[key] != two[key] {
					want = key
				}
			}
			if got := impl.FirstOther(a, b); got != want || impl.SameTargets(a, b) != (want == -1) {
				t.Fatalf("FirstOther(%q, %q) = %d, want %d", impl.FormatSwitch(a), impl.FormatSwitch(b), got, want)
			}
		}
	}
}

// altered returns a switch with one case left out, so that it agrees for a while.
func altered(s impl.Switch, i int) impl.Switch {
	if len(s.Cases) == 0 {
		return s
	}
	i %= len(s.Cases)
	return impl.Switch{Cases: slices.Concat(s.Cases[:i], s.Cases[i+1:]), Rest: s.Rest}
}

func TestMergedSwitchesHeldAgainstTheirCases(t *testing.T) {
	for _, s := range manySwitches(5000) {
		text := impl.FormatSwitch(s)
		merged, ok := impl.MergeCases(s)
		if !ok || !impl.SwitchValid(merged) || merged.Rest != s.Rest || targetsByKey(merged) != targetsByKey(s) || impl.CountGaps(merged) != impl.CountGaps(s) {
			t.Fatalf("MergeCases(%q) = %q, %v", text, impl.FormatSwitch(merged), ok)
		}
		left := s.Cases
		for _, c := range merged.Cases {
			left = checkMerged(t, text, c, left)
		}
		if len(left) != 0 {
			t.Fatalf("MergeCases(%q) = %q: cases left over", text, impl.FormatSwitch(merged))
		}
	}
}

// checkMerged takes cases away up to the end of a merged one, and returns those behind it.
func checkMerged(t *testing.T, text string, c impl.Case, left []impl.Case) []impl.Case {
	t.Helper()
	weight, last := 0, impl.Case{}
	for len(left) > 0 && left[0].High <= c.High {
		weight += left[0].Weight
		last, left = left[0], left[1:]
	}
	if weight != c.Weight || last.High != c.High {
		t.Fatalf("MergeCases(%q) has %v, of cases that weigh %d up to %d", text, c, weight, last.High)
	}
	if len(left) > 0 && left[0].Low == c.High+1 && left[0].Target == c.Target && weight+left[0].Weight <= impl.MaxWeight {
		t.Fatalf("MergeCases(%q) has %v, without its neighbour %v", text, c, left[0])
	}
	return left
}

// useSegments calls every function of the chapter that takes a switch.
func useSegments(s impl.Switch) {
	impl.SegmentsOf(s)
	impl.FormatSegments(s.Cases)
	impl.MergeCases(s)
	impl.SameTargets(s, s)
	impl.FirstOther(s, impl.Switch{})
	impl.FirstOther(impl.Switch{}, s)
	impl.IsComplete(s)
	impl.BordersOf(s)
	impl.CountGaps(s)
}

func TestSegmentsLeaveArgumentsAsTheyAre(t *testing.T) {
	for _, text := range []string{"0-3a5,7b2;1", "0-3a5,4a2,9b1;1", "0-15a1,16-31a2;0"} {
		checkStays(t, read(t, text), useSegments)
	}
}

func TestSegmentsShareNoMemory(t *testing.T) {
	for _, text := range []string{"0-31a5;1", "0-15a5,16-31b2;1", "0-3a5,4a2,9b1;1"} {
		s := read(t, text)
		memory := append(slices.Clone(s.Cases), make([]impl.Case, 4)...)
		before := slices.Clone(memory)
		s.Cases = memory[:len(s.Cases)]
		one, _ := impl.SegmentsOf(s)
		two, _ := impl.SegmentsOf(s)
		merged, _ := impl.MergeCases(s)
		again, _ := impl.MergeCases(s)
		lists := [][]impl.Case{one, two, merged.Cases, again.Cases}
		for i, list := range lists {
			fill(list, impl.Case{Low: i, High: i, Target: "h", Weight: i})
		}
		for i, list := range lists {
			want := impl.Case{Low: i, High: i, Target: "h", Weight: i}
			if slices.ContainsFunc(list[:cap(list)], func(c impl.Case) bool { return c != want }) {
				t.Errorf("a result of %q shares memory with another one: %v", text, list[:cap(list)])
			}
		}
		if !slices.Equal(memory, before) {
			t.Errorf("a result of %q shares memory with the argument: %v", text, memory)
		}
	}
}

// fill writes an element all over a slice, also behind its length.
func fill[T any](list []T, element T) {
	list = list[:cap(list)]
	for i := range list {
		list[i] = element
	}
}

func TestBordersShareNoMemory(t *testing.T) {
	s := read(t, "0-3a5,7b2;1")
	one, _ := impl.BordersOf(s)
	two, _ := impl.BordersOf(s)
	fill(one, 77)
	if want := []int{4, 7, 8}; !slices.Equal(two, want) || slices.Contains(two[:cap(two)], 77) {
		t.Errorf("BordersOf has become %v, want %v", two, want)
	}
}
