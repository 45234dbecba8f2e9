package tests

import (
	"math"
	"slices"
	"testing"

	"loop.example/keyswitches/impl"
)

// A ranking tells which chains of a switch cost least and most.
type ranking struct {
	text        string
	best, worst []int
	least, most int
}

// rankings returns switches and what is to come of their chains.
func rankings() []ranking {
	return []ranking{
		// The document's example.
		{"0-3a5,7b4;1", []int{1, 0}, []int{0, 1}, 22, 25},
		// No cases at all: there is one order, of none, and no test.
		{";0", nil, nil, 0, 0},
		{";99", nil, nil, 0, 0},
		// One case, of one key and of several.
		{"9a7;2", []int{0}, []int{0}, 9, 9},
		{"8-9a7;2", []int{0}, []int{0}, 18, 18},
		// Weights of 0 for all cases: each order costs the same, so the first one is both.
		{"0a0,1b0,2-3c0;0", []int{0, 1, 2}, []int{0, 1, 2}, 0, 0},
		{"0a0,1b0,2-3c0;5", []int{0, 1, 2}, []int{0, 1, 2}, 20, 20},
		// Weights of 0 for some: these come last or first, as they stand, whatever their tests cost.
		{"0a0,1a5,2a0;0", []int{1, 0, 2}, []int{0, 2, 1}, 5, 15},
		{"0-1a0,2b0,3c1;0", []int{2, 0, 1}, []int{0, 1, 2}, 1, 4},
		{"0a0,1-2b0,3c1,4-5d0;9", []int{2, 0, 1, 3}, []int{0, 1, 3, 2}, 55, 60},
		// Weight and cost alike, or the weight for each unit of the cost.
		{"0a3,1b3,2c3;1", []int{0, 1, 2}, []int{0, 1, 2}, 21, 21},
		{"0-1a3,2-3b3;1", []int{0, 1}, []int{0, 1}, 22, 22},
		{"0-1a4,2b2;0", []int{0, 1}, []int{0, 1}, 14, 14},
		{"0a2,1-2b4;0", []int{0, 1}, []int{0, 1}, 14, 14},
		{"0a2,1-2b4,5c2;0", []int{0, 1, 2}, []int{0, 1, 2}, 22, 22},
		{"0a1,2b2,4-5c2,7-8d4;0", []int{1, 3, 0, 2}, []int{0, 2, 1, 3}, 30, 39},
		// The weight alone does not tell, and no part behind the point is lost.
		{"0-1a5,2b4;0", []int{1, 0}, []int{0, 1}, 19, 22},
		{"0-1a5,2b3;0", []int{1, 0}, []int{0, 1}, 18, 19},
		{"0b2,1-2a5;0", []int{1, 0}, []int{0, 1}, 16, 17},
		{"0-1a5,2b2;0", []int{0, 1}, []int{1, 0}, 16, 17},
		{"0-1a1,2b1;0", []int{1, 0}, []int{0, 1}, 4, 5},
		// The greatest weights, and as many cases as there may be.
		{"0a99,1b98;99", []int{0, 1}, []int{1, 0}, 493, 494},
		{"0a1,1b2,2c3,3d4,4e5,5f6,6g7,7h8;9", []int{7, 6, 5, 4, 3, 2, 1, 0}, []int{0, 1, 2, 3, 4, 5, 6, 7}, 192, 276},
		{"0-1a99,2-3b99,4-5c99,6-7d99,8-9e99,10-11f99,12-13g99,14-31h99;99", []int{0, 1, 2, 3, 4, 5, 6, 7}, []int{0, 1, 2, 3, 4, 5, 6, 7}, 8712, 8712},
		// The range of a case does not tell, only whether it has one key.
		{"0-1a6,2-31b6;0", []int{0, 1}, []int{0, 1}, 36, 36},
	}
}

func TestBestAndWorstChains(t *testing.T) {
	for _, want := range rankings() {
		s := read(t, want.text)
		if got, ok := impl.BestChain(s); !slices.Equal(got, want.best) || !ok {
			t.Errorf("BestChain(%q) = %v, %v, want %v", want.text, got, ok, want.best)
		}
		if got, ok := impl.WorstChain(s); !slices.Equal(got, want.worst) || !ok {
			t.Errorf("WorstChain(%q) = %v, %v, want %v", want.text, got, ok, want.worst)
		}
		if got := impl.ChainCost(s, want.best); got != want.least {
			t.Errorf("ChainCost(%q, %v) = %d, want %d", want.text, want.best, got, want.least)
		}
		if got := impl.ChainCost(s, want.worst); got != want.most {
			t.Errorf("ChainCost(%q, %v) = %d, want %d", want.text, want.worst, got, want.most)
		}
	}
}

// ordersOf returns all orders of so many indices, in the order of the first ones that differ.
func ordersOf(count int) [][]int {
	list := [][]int{nil}
	for range count {
		var longer [][]int
		for _, order := range list {
			for i := range count {
				if !slices.Contains(order, i) {
					longer = append(longer, append(slices.Clone(order), i))
				}
			}
		}
		list = longer
	}
	return list
}

// TestAllOrdersOfManySwitches holds chains against what they cost when each key and weight is gone through.
func TestAllOrdersOfManySwitches(t *testing.T) {
	orders := map[int][][]int{}
	for count := range 7 {
		orders[count] = ordersOf(count)
	}
	alike := 0
	for _, s := range manySwitches(1200) {
		s.Cases = s.Cases[:min(len(s.Cases), 6)]
		if len(s.Cases) > 1 && s.Cases[0].Weight == s.Cases[1].Weight {
			alike++
		}
		var best, worst []int
		least, most := math.MaxInt, -1
		for _, order := range orders[len(s.Cases)] {
			cost := costByHand(s, order)
			if got := impl.ChainCost(s, order); got != cost || !impl.OrderValid(s, order) {
				t.Fatalf("ChainCost(%q, %v) = %d, want %d", impl.FormatSwitch(s), order, got, cost)
			}
			if cost < least {
				best, least = order, cost
			}
			if cost > most {
				worst, most = order, cost
			}
		}
		if got, ok := impl.BestChain(s); !slices.Equal(got, best) || !ok {
			t.Fatalf("BestChain(%q) = %v, %v, want %v", impl.FormatSwitch(s), got, ok, best)
		}
		if got, ok := impl.WorstChain(s); !slices.Equal(got, worst) || !ok {
			t.Fatalf("WorstChain(%q) = %v, %v, want %v", impl.FormatSwitch(s), got, ok, worst)
		}
	}
	if alike == 0 {
		t.Error("no switch whose cases are alike was tried")
	}
}

// costByHand returns what a chain costs, by the document's words.
func costByHand(s impl.Switch, order []int) int {
	total, all := 0, 0
	for _, i := range order {
		all += testByHand(s.Cases[i])
		total += s.Cases[i].Weight * all
	}
	return total + s.Rest*all
}

// testByHand returns what a test costs, by the document's words.
func testByHand(c impl.Case) int {
	if c.Low == c.High {
		return 1
	}
	return 2
}

// TestChainsOfMostCases holds the chains of as many cases as there may be against all others.
func TestChainsOfMostCases(t *testing.T) {
	orders := ordersOf(impl.MaxCases)
	for _, text := range []string{
		"0a9,1b0,2-3c18,4d0,5-9e1,10f1,11g2,12-31h99;5", "0-1a2,2b1,3c1,4-5d2,6-7e2,8f1,9g1,10-11h2;0", "0a5,1-2b10,3c6,4-5d13,6e99,7f98,8-9g99,10h50;99",
	} {
		s := read(t, text)
		by := func(one, two []int) int { return costByHand(s, one) - costByHand(s, two) }
		// Of several least or greatest ones, these return the first.
		best, worst := slices.MinFunc(orders, by), slices.MaxFunc(orders, by)
		if got, ok := impl.BestChain(s); !slices.Equal(got, best) || !ok {
			t.Errorf("BestChain(%q) = %v, %v, want %v", text, got, ok, best)
		}
		if got, ok := impl.WorstChain(s); !slices.Equal(got, worst) || !ok {
			t.Errorf("WorstChain(%q) = %v, %v, want %v", text, got, ok, worst)
		}
	}
}

func TestCostsOfTests(t *testing.T) {
	s := read(t, "0a9,1-2b0,5-30c7,31d0;4")
	for i, want := range []int{1, 2, 2, 1} {
		if got := impl.TestCost(s, i); got != want {
			t.Errorf("TestCost(%d) = %d, want %d", i, got, want)
		}
	}
	for _, i := range []int{math.MinInt, -4, -1, 4, 5, 8, 1 << 32, math.MaxInt} {
		if got := impl.TestCost(s, i); got != -1 {
			t.Errorf("TestCost(%d) = %d", i, got)
		}
	}
	for _, i := range []int{-1, 0, 1} {
		if got := impl.TestCost(read(t, ";3"), i); got != -1 {
			t.Errorf("TestCost(%d) without cases = %d", i, got)
		}
	}
}

func TestChainsLeadKeysToTargets(t *testing.T) {
	wants := []struct {
		text   string
		order  []int
		key    int
		target string
		cost   int
	}{
		{"0-3a5,7b4;1", []int{1, 0}, 7, "b", 1},
		{"0-3a5,7b4;1", []int{1, 0}, 0, "a", 3},
		{"0-3a5,7b4;1", []int{1, 0}, 3, "a", 3},
		{"0-3a5,7b4;1", []int{1, 0}, 4, "z", 3},
		{"0-3a5,7b4;1", []int{1, 0}, 31, "z", 3},
		{"0-3a5,7b4;1", []int{0, 1}, 0, "a", 2},
		{"0-3a5,7b4;1", []int{0, 1}, 7, "b", 3},
		{"0-3a5,7b4;1", []int{0, 1}, 8, "z", 3},
		{";5", nil, 0, "z", 0},
		{";5", nil, 31, "z", 0},
		{"0-31h0;0", []int{0}, 31, "h", 2},
		{"1a0,2a0,3a0;0", []int{2, 0, 1}, 1, "a", 2},
		{"1a0,2a0,3a0;0", []int{2, 0, 1}, 2, "a", 3},
		{"1a0,2a0,3a0;0", []int{2, 0, 1}, 3, "a", 1},
		{"1a0,2a0,3a0;0", []int{2, 0, 1}, 0, "z", 3},
	}
	for _, want := range wants {
		target, cost, ok := impl.RunChain(read(t, want.text), want.order, want.key)
		if target != want.target || cost != want.cost || !ok {
			t.Errorf("RunChain(%q, %v, %d) = %q, %d, %v, want %q, %d", want.text, want.order, want.key, target, cost, ok, want.target, want.cost)
		}
	}
}

// TestRunsHeldAgainstReachCosts runs chains of many switches for all keys.
func TestRunsHeldAgainstReachCosts(t *testing.T) {
	for n, s := range manySwitches(1500) {
		order := anyOrder(len(s.Cases), n)
		reach, ok := impl.ReachCosts(s, order)
		if len(reach) != len(order) || !ok {
			t.Fatalf("ReachCosts(%q, %v) = %v, %v", impl.FormatSwitch(s), order, reach, ok)
		}
		all := 0
		for _, i := range order {
			all += testByHand(s.Cases[i])
			if reach[i] != all {
				t.Fatalf("ReachCosts(%q, %v) = %v, want %d at %d", impl.FormatSwitch(s), order, reach, all, i)
			}
		}
		for key := range impl.MaxKey + 1 {
			want, cost := "z", all
			if i := impl.CaseOf(s, key); i >= 0 {
				want, cost = s.Cases[i].Target, reach[i]
			}
			if target, got, ok := impl.RunChain(s, order, key); target != want || got != cost || !ok {
				t.Fatalf("RunChain(%q, %v, %d) = %q, %d, %v, want %q, %d", impl.FormatSwitch(s), order, key, target, got, ok, want, cost)
			}
		}
	}
}

// anyOrder returns an order of so many indices, another one for other numbers.
func anyOrder(count, number int) []int {
	var order []int
	for i := range count {
		order = slices.Insert(order, number%(i+1), i)
		number /= 2
	}
	return order
}

func TestGainsOfSwaps(t *testing.T) {
	wants := []struct {
		text  string
		order []int
		gains []int
	}{
		{"0-3a5,7b4;1", []int{0, 1}, []int{3}},
		{"0-3a5,7b4;1", []int{1, 0}, []int{-3}},
		// Rest weighs on all tests in any order.
		{"0-3a5,7b4;99", []int{1, 0}, []int{-3}},
		{"0a0,1b0;9", []int{0, 1}, []int{0}},
		{"0a0,1b7;0", []int{0, 1}, []int{7}},
		{"0-1a4,2b2;0", []int{1, 0}, []int{0}},
		{"0a1,2-5b3,9c9;4", []int{0, 1, 2}, []int{1, 15}},
		{"0a1,2-5b3,9c9;4", []int{2, 0, 1}, []int{-8, 1}},
		{"3a5;0", []int{0}, nil},
		{";9", nil, nil},
	}
	for _, want := range wants {
		s := read(t, want.text)
		for i := -2; i < len(want.order)+2; i++ {
			gain, valid := 0, i >= 0 && i < len(want.gains)
			if valid {
				gain = want.gains[i]
			}
			if got, ok := impl.SwapGain(s, want.order, i); got != gain || ok != valid {
				t.Errorf("SwapGain(%q, %v, %d) = %d, %v, want %d, %v", want.text, want.order, i, got, ok, gain, valid)
			}
		}
		for _, i := range []int{math.MinInt, math.MinInt + 1, math.MaxInt - 1, math.MaxInt} {
			if got, ok := impl.SwapGain(s, want.order, i); got != 0 || ok {
				t.Errorf("SwapGain(%q, %v, %d) = %d, %v", want.text, want.order, i, got, ok)
			}
		}
	}
}

func TestGainsHeldAgainstCosts(t *testing.T) {
	for n, s := range manySwitches(1500) {
		order := anyOrder(len(s.Cases), n)
		for i := range max(len(order), 1) - 1 {
			swapped := slices.Clone(order)
			swapped[i], swapped[i+1] = order[i+1], order[i]
			want := costByHand(s, order) - costByHand(s, swapped)
			if got, ok := impl.SwapGain(s, order, i); got != want || !ok {
				t.Fatalf("SwapGain(%q, %v, %d) = %d, %v, want %d", impl.FormatSwitch(s), order, i, got, ok, want)
			}
		}
		best, _ := impl.BestChain(s)
		for i := range max(len(best), 1) - 1 {
			if got, ok := impl.SwapGain(s, best, i); got > 0 || !ok {
				t.Fatalf("SwapGain(%q, %v, %d) = %d, %v for the best chain", impl.FormatSwitch(s), best, i, got, ok)
			}
		}
	}
}

// wrongOrders returns numbers that are no order of three cases.
func wrongOrders() [][]int {
	return [][]int{
		nil, {}, {0}, {0, 1}, {1, 2}, {0, 1, 2, 3}, {0, 1, 2, 2}, {0, 1, 2, 0}, {0, 0, 0}, {0, 0, 1}, {0, 1, 1}, {2, 2, 1}, {2, 0, 2},
		{1, 2, 3}, {0, 1, 3}, {-1, 0, 1}, {0, 1, -1}, {-2, -1, 0}, {0, 1, 2 - 1<<32}, {0, 1, 2 + 1<<32}, {0, 1, 2 + 256},
		{math.MinInt, 0, 1}, {0, 1, math.MaxInt}, make([]int, 100000),
	}
}

func TestOrdersThatAreNotValid(t *testing.T) {
	s := read(t, "0-3a5,7b4,9c0;1")
	for _, order := range wrongOrders() {
		checkNoChain(t, s, order)
	}
	for _, order := range [][]int{{0}, {-1}, {0, 1}} {
		checkNoChain(t, read(t, ";7"), order)
	}
	for _, order := range [][]int{nil, {1}, {-1}, {0, 0}, {0, 1}} {
		checkNoChain(t, read(t, "4a1;7"), order)
	}
	for _, order := range ordersOf(3) {
		if !impl.OrderValid(s, order) {
			t.Errorf("OrderValid(%v) = false", order)
		}
	}
	for _, order := range [][]int{nil, {}} {
		if !impl.OrderValid(read(t, ";7"), order) {
			t.Errorf("OrderValid(%v) = false without cases", order)
		}
	}
}

// checkNoChain reports an order that is not valid, but is taken for one.
func checkNoChain(t *testing.T, s impl.Switch, order []int) {
	t.Helper()
	shown := order[:min(len(order), 9)]
	if impl.OrderValid(s, order) {
		t.Errorf("OrderValid(%v, %v) = true", s, shown)
	}
	for _, key := range []int{-1, 0, 7, 20, 32} {
		if target, cost, ok := impl.RunChain(s, order, key); target != "" || cost != 0 || ok {
			t.Errorf("RunChain(%v, %v, %d) = %q, %d, %v", s, shown, key, target, cost, ok)
		}
	}
	if got := impl.ChainCost(s, order); got != -1 {
		t.Errorf("ChainCost(%v, %v) = %d", s, shown, got)
	}
	for _, i := range []int{-1, 0, 1, 2} {
		if got, ok := impl.SwapGain(s, order, i); got != 0 || ok {
			t.Errorf("SwapGain(%v, %v, %d) = %d, %v", s, shown, i, got, ok)
		}
	}
	if got, ok := impl.ReachCosts(s, order); len(got) != 0 || ok {
		t.Errorf("ReachCosts(%v, %v) = %v, %v", s, shown, got, ok)
	}
}

func TestNoChainsOfSwitchesThatAreNotValid(t *testing.T) {
	for name, s := range wrongSwitches() {
		for i := -1; i <= len(s.Cases) && i < 3; i++ {
			if got := impl.TestCost(s, i); got != -1 {
				t.Errorf("%s: TestCost(%d) = %d", name, i, got)
			}
		}
		order := anyOrder(len(s.Cases), 0)
		for _, numbers := range [][]int{nil, {0}, {0, 1}, order} {
			checkNoChain(t, s, numbers)
		}
		if got, ok := impl.BestChain(s); len(got) != 0 || ok {
			t.Errorf("%s: BestChain = %v, %v", name, got, ok)
		}
		if got, ok := impl.WorstChain(s); len(got) != 0 || ok {
			t.Errorf("%s: WorstChain = %v, %v", name, got, ok)
		}
	}
}

func TestChainsOfNumbersThatAreNoKeys(t *testing.T) {
	for _, text := range []string{";5", "0-3a5,7b2;1", "0-31h1;0"} {
		s := read(t, text)
		order := anyOrder(len(s.Cases), 1)
		for _, key := range []int{math.MinInt, -32, -1, 32, 33, 256, 1 << 32, math.MaxInt} {
			if target, cost, ok := impl.RunChain(s, order, key); target != "" || cost != 0 || ok {
				t.Errorf("RunChain(%q, %v, %d) = %q, %d, %v", text, order, key, target, cost, ok)
			}
		}
	}
}

// useChains calls every function of the chapter with an order.
func useChains(s impl.Switch, order []int) {
	impl.OrderValid(s, order)
	impl.TestCost(s, 0)
	impl.RunChain(s, order, 7)
	impl.ChainCost(s, order)
	impl.BestChain(s)
	impl.WorstChain(s)
	impl.SwapGain(s, order, 0)
	impl.ReachCosts(s, order)
}

func TestChainsLeaveArgumentsAsTheyAre(t *testing.T) {
	s := read(t, "0-3a5,7b9,9c20;1")
	for _, order := range append(ordersOf(3), wrongOrders()...) {
		memory := append(slices.Clone(order), 77, 78)
		before := slices.Clone(memory)
		checkStays(t, s, func(s impl.Switch) { useChains(s, memory[:len(order)]) })
		if !slices.Equal(memory, before) {
			t.Errorf("an order has become %v, was %v", memory, before)
		}
	}
}

func TestChainsShareNoMemory(t *testing.T) {
	s := read(t, "0-3a5,7b9,9c20;1")
	memory := []int{2, 0, 1, 77, 77}
	before := slices.Clone(memory)
	var lists [][]int
	for range 2 {
		best, _ := impl.BestChain(s)
		worst, _ := impl.WorstChain(s)
		reach, _ := impl.ReachCosts(s, memory[:3])
		lists = append(lists, best, worst, reach)
	}
	for i, list := range lists {
		fill(list, 100+i)
	}
	for i, list := range lists {
		if slices.ContainsFunc(list[:cap(list)], func(n int) bool { return n != 100+i }) {
			t.Errorf("a result shares memory with another one: %v", list[:cap(list)])
		}
	}
	if !slices.Equal(memory, before) {
		t.Errorf("a result shares memory with the argument: %v", memory)
	}
}
