package tests

import (
	"math"
	"slices"
	"strconv"
	"strings"
	"testing"

	"loop.example/keyswitches/impl"
)

// kindsOfClusters are the kinds in the order in which they are tried.
var kindsOfClusters = []string{"test", "table", "bits"}

// cluster returns the cluster that a text such as `bits0-3` tells.
func cluster(t *testing.T, text string) impl.Cluster {
	t.Helper()
	digits := strings.TrimLeft(text, "abcdefghijklmnopqrstuvwxyz")
	c := impl.Cluster{Kind: strings.TrimSuffix(text, digits)}
	front, back, two := strings.Cut(digits, "-")
	if !two {
		back = front
	}
	first, errFirst := strconv.Atoi(front)
	last, errLast := strconv.Atoi(back)
	if errFirst != nil || errLast != nil {
		t.Fatalf("no cluster: %q", text)
	}
	c.First, c.Last = first, last
	return c
}

// plan returns the plan that a text tells.
func plan(t *testing.T, text string) []impl.Cluster {
	t.Helper()
	var list []impl.Cluster
	if text == "-" {
		return list
	}
	for _, part := range strings.Split(text, " ") {
		list = append(list, cluster(t, part))
	}
	return list
}

func TestPricesOfClusters(t *testing.T) {
	wants := []struct {
		text    string
		cluster string
		price   int
	}{
		{"1a1,3a1,5a1,7a1,30b1;2", "bits0-3", 4},
		{"1a1,3a1,5a1,7a1,30b1;2", "test4", 2},
		{"1a1,3a1,5a1,7a1,30b1;2", "test0", 2},
		{"1a1,3a1,5a1,7a1,30b1;2", "table0-3", 5},
		{"1a1,3a1,5a1,7a1,30b1;2", "table0-4", 11},
		{"1a1,3a1,5a1,7a1,30b1;2", "table3-4", 10},
		{"1a1,3a1,5a1,7a1,30b1;2", "bits1-2", 4},
		// One key, several, and all of them.
		{"0-3a5,7b2;1", "test0", 3},
		{"0-3a5,7b2;1", "test1", 2},
		{"0-31a1;0", "test0", 3},
		{"0-31a1;0", "table0", 12},
		{"31h0;0", "test0", 2},
		{"30-31h0;0", "test0", 3},
		// Spans around those that cost a table one more.
		{"9a1;0", "table0", 4},
		{"9-11a1;0", "table0", 4},
		{"9-12a1;0", "table0", 5},
		{"9-13a1;0", "table0", 5},
		{"9a1,15b1;0", "table0-1", 5},
		{"9a1,16b1;0", "table0-1", 6},
		{"0a1,30b1;0", "table0-1", 11},
		{"0a1,31b1;0", "table0-1", 12},
		// Spans that are as great as they may be for bits.
		{"0-15a1;0", "bits0", 4},
		{"16-31a1;0", "bits0", 4},
		{"0a1,15b1;0", "bits0-1", 6},
		{"16a1,31b1;0", "bits0-1", 6},
		{"0-7a1,8-15a1,16-31c1;0", "bits0-1", 4},
		{"0-7a1,8-15a1,16-31c1;0", "bits2", 4},
		// Targets that are the same count once, wherever they stand.
		{"0a1,1b1,2c1,3d1,4e1,5f1,6g1,7h1;0", "bits0-7", 18},
		{"0a1,1b1,2c1,3d1,4e1,5f1,6g1,7h1;0", "bits6-7", 6},
		{"0a1,1b1,2c1,3d1,4e1,5f1,6g1,7h1;0", "bits7", 4},
		{"0a1,1b1,2a1,3b1,4a1,5b1,6a1,7b1;0", "bits0-7", 6},
		{"0a1,2b1,4c1,6a1;0", "bits0-3", 8},
		{"0a1,2b1,4c1,6a1;0", "bits1-3", 8},
		{"0a1,2b1,4c1,6a1;0", "bits0-1", 6},
	}
	for _, want := range wants {
		if got := impl.PriceOf(read(t, want.text), cluster(t, want.cluster)); got != want.price {
			t.Errorf("PriceOf(%q, %s) = %d, want %d", want.text, want.cluster, got, want.price)
		}
	}
}

func TestClustersThatAreNone(t *testing.T) {
	wants := []struct {
		text     string
		clusters string
	}{
		{"1a1,3a1,5a1,7a1,30b1;2", "test0-1 test0-3 test0-4 test3-4"},
		{"1a1,3a1,5a1,7a1,30b1;2", "table0-5 table5 bits5 test5 bits4-5 table9"},
		{"1a1,3a1,5a1,7a1,30b1;2", "table1-0 bits1-0 test1-0 table4-0 bits3-2"},
		{"1a1,3a1,5a1,7a1,30b1;2", "tree0 0 t0 tests0 tes0 tables0-3 bit0-3 bitss0 testtest0 tablebits0"},
		{"1a1,3a1,5a1,7a1,30b1;2", "bits0-4 bits1-4 bits3-4"},
		// Spans that are just too great for bits.
		{"0-16a1;0", "bits0"},
		{"15-31a1;0", "bits0"},
		{"0a1,16b1;0", "bits0-1"},
		{"15a1,31b1;0", "bits0-1"},
		{"0-31a1;0", "bits0"},
		// No cases.
		{";4", "test0 table0 bits0 table0-1 test1 table1-0"},
	}
	for _, want := range wants {
		for _, c := range plan(t, want.clusters) {
			if got := impl.PriceOf(read(t, want.text), c); got != -1 {
				t.Errorf("PriceOf(%q, %v) = %d", want.text, c, got)
			}
		}
	}
}

// indicesThatAreNone returns indices that no case of a switch of some cases has.
func indicesThatAreNone(count int) []int {
	return []int{math.MinInt, -count - 1, -2, -1, count, count + 1, 2*count + 9, 1 << 32, math.MaxInt - 1, math.MaxInt}
}

// kindsThatAreNone returns texts that are no kind.
func kindsThatAreNone() []string {
	list := []string{"", "z", "tree", "chain", "word", "bit", "tables", "\u0161est", strings.Repeat("test", 1<<16)}
	for _, kind := range kindsOfClusters {
		list = append(list, strings.ToUpper(kind), strings.ToUpper(kind[:1])+kind[1:])
		list = append(list, kind+" ", " "+kind, kind+"\x00", kind+"s", kind[1:], kind[:len(kind)-1], kind+kind)
	}
	return list
}

// checkNoCases reports indices without cases that have a price or a best kind.
func checkNoCases(t *testing.T, name string, s impl.Switch, first, last int) {
	t.Helper()
	for _, kind := range kindsOfClusters {
		if got := impl.PriceOf(s, impl.Cluster{First: first, Last: last, Kind: kind}); got != -1 {
			t.Errorf("%s: PriceOf(%s, %d, %d) = %d", name, kind, first, last, got)
		}
	}
	if kind, ok := impl.BestKind(s, first, last); kind != "" || ok {
		t.Errorf("%s: BestKind(%d, %d) = %q, %v", name, first, last, kind, ok)
	}
}

func TestIndicesThatAreNone(t *testing.T) {
	for text, s := range validSwitches() {
		count := len(s.Cases)
		for _, wrong := range indicesThatAreNone(count) {
			checkNoCases(t, text, s, wrong, wrong)
			for i := range count {
				checkNoCases(t, text, s, wrong, i)
				checkNoCases(t, text, s, i, wrong)
			}
		}
		for first := range count {
			for last := range first {
				checkNoCases(t, text, s, first, last)
			}
		}
	}
}

func TestKindsThatAreNone(t *testing.T) {
	for text, s := range validSwitches() {
		for i := range s.Cases {
			for _, kind := range kindsThatAreNone() {
				c := impl.Cluster{First: i, Last: i, Kind: kind}
				if got := impl.PriceOf(s, c); got != -1 {
					t.Errorf("PriceOf(%q, %v) = %d", text, c, got)
				}
				if len(s.Cases) == 1 && impl.PlanValid(s, []impl.Cluster{c}) {
					t.Errorf("PlanValid(%q, %v)", text, c)
				}
			}
		}
	}
}

// priceByHand returns the price of a cluster of cases that are there, by the document's words.
func priceByHand(s impl.Switch, c impl.Cluster) int {
	span := 0
	for key := s.Cases[c.First].Low; key <= s.Cases[c.Last].High; key++ {
		span++
	}
	different := map[string]bool{}
	for i := c.First; i <= c.Last; i++ {
		different[s.Cases[i].Target] = true
	}
	switch {
	case c.Kind == "test" && c.First == c.Last:
		return 1 + testByHand(s.Cases[c.First])
	case c.Kind == "table":
		return 4 + span/4
	case c.Kind == "bits" && span <= 16:
		return 2 + 2*len(different)
	}
	return -1
}

// kindByHand returns the first kind of a cluster of some cases with the least price.
func kindByHand(s impl.Switch, first, last int) string {
	best, least := "", math.MaxInt
	for _, kind := range kindsOfClusters {
		if price := priceByHand(s, impl.Cluster{First: first, Last: last, Kind: kind}); price >= 0 && price < least {
			best, least = kind, price
		}
	}
	return best
}

// TestPricesHeldAgainstCases holds the clusters of many switches against their cases.
func TestPricesHeldAgainstCases(t *testing.T) {
	best := map[string]int{}
	for _, s := range manySwitches(2000) {
		text := impl.FormatSwitch(s)
		for last := range s.Cases {
			for first := range last + 1 {
				for _, kind := range kindsOfClusters {
					c := impl.Cluster{First: first, Last: last, Kind: kind}
					if got, want := impl.PriceOf(s, c), priceByHand(s, c); got != want {
						t.Fatalf("PriceOf(%q, %v) = %d, want %d", text, c, got, want)
					}
				}
				want := kindByHand(s, first, last)
				if got, ok := impl.BestKind(s, first, last); got != want || !ok {
					t.Fatalf("BestKind(%q, %d, %d) = %q, %v, want %q", text, first, last, got, ok, want)
				}
				best[want]++
			}
		}
	}
	if len(best) != 3 || best["test"] < 100 || best["table"] < 100 || best["bits"] < 100 {
		t.Errorf("kinds were tried so often: %v", best)
	}
}

func TestBestKinds(t *testing.T) {
	wants := []struct {
		text        string
		first, last int
		kind        string
	}{
		{"1a1,3a1,5a1,7a1,30b1;2", 0, 0, "test"},
		{"1a1,3a1,5a1,7a1,30b1;2", 0, 3, "bits"},
		{"1a1,3a1,5a1,7a1,30b1;2", 0, 4, "table"},
		{"1a1,3a1,5a1,7a1,30b1;2", 3, 4, "table"},
		{"1a1,3a1,5a1,7a1,30b1;2", 4, 4, "test"},
		// A table and bits that cost the same, and one that costs less.
		{"0a1,1a1;0", 0, 1, "table"},
		{"0a1,2a1;0", 0, 1, "table"},
		{"0a1,3a1;0", 0, 1, "bits"},
		{"0a1,7b1;0", 0, 1, "table"},
		{"0a1,10b1;0", 0, 1, "table"},
		{"0a1,11b1;0", 0, 1, "bits"}, // 7 and 6
		{"0a1,15b1;0", 0, 1, "bits"},
		{"0a1,16b1;0", 0, 1, "table"},
		{"0a1,8b1,15c1;0", 0, 2, "table"}, // 8 and 8
		// One case is never told for less than by a test.
		{"0-31a1;0", 0, 0, "test"},
		{"0-1a1;0", 0, 0, "test"},
		{"0-15a1;0", 0, 0, "test"},
		{"31h0;99", 0, 0, "test"},
	}
	for _, want := range wants {
		if kind, ok := impl.BestKind(read(t, want.text), want.first, want.last); kind != want.kind || !ok {
			t.Errorf("BestKind(%q, %d, %d) = %q, %v, want %q", want.text, want.first, want.last, kind, ok, want.kind)
		}
	}
}

func TestPlansAndTheirPrices(t *testing.T) {
	wants := []struct {
		text  string
		plan  string
		price int
	}{
		{"1a1,3a1,5a1,7a1,30b1;2", "bits0-3 test4", 8},
		{"1a1,3a1,5a1,7a1,30b1;2", "table0-4", 11},
		{"1a1,3a1,5a1,7a1,30b1;2", "test0 test1 test2 test3 test4", 18},
		{"1a1,3a1,5a1,7a1,30b1;2", "bits0-1 table2-3 test4", 14},
		{"1a1,3a1,5a1,7a1,30b1;2", "test0 bits1-3 bits4", 14},
		{"1a1,3a1,5a1,7a1,30b1;2", "test0 table1-4", 15},
		{"1a1,3a1,5a1,7a1,30b1;2", "table0 table1 table2 table3 table4", 28},
		{"0-31a1;0", "test0", 3},
		{"0-31a1;0", "table0", 12},
		{"0-15a1;0", "bits0", 4},
		// A span that is just as great as it may be.
		{"0a1,15b1,31c1;0", "bits0-1 test2", 10},
		{"0a1,16b1,31c1;0", "test0 bits1-2", 10},
		{"0-15a1,16-31a1;0", "bits0 bits1", 10},
		// No clusters, as there are no cases.
		{";4", "-", 0},
		{";0", "-", 0},
	}
	for _, want := range wants {
		s, list := read(t, want.text), plan(t, want.plan)
		if !impl.PlanValid(s, list) {
			t.Errorf("PlanValid(%q, %s) = false", want.text, want.plan)
		}
		if got := impl.PlanPrice(s, list); got != want.price {
			t.Errorf("PlanPrice(%q, %s) = %d, want %d", want.text, want.plan, got, want.price)
		}
	}
	if s := read(t, ";4"); !impl.PlanValid(s, []impl.Cluster{}) || impl.PlanPrice(s, []impl.Cluster{}) != 0 {
		t.Error("an empty slice is no plan of a switch without cases")
	}
}

// checkNoPlan reports clusters that are no plan but are taken for one.
func checkNoPlan(t *testing.T, name string, s impl.Switch, list []impl.Cluster) {
	t.Helper()
	if impl.PlanValid(s, list) {
		t.Errorf("%s: PlanValid(%.60v) = true", name, list)
	}
	if got := impl.PlanPrice(s, list); got != -1 {
		t.Errorf("%s: PlanPrice(%.60v) = %d", name, list, got)
	}
	for _, key := range []int{-1, 0, 7, 31, 32} {
		if target, i, ok := impl.RunPlan(s, list, key); target != "" || i != 0 || ok {
			t.Errorf("%s: RunPlan(%.60v, %d) = %q, %d, %v", name, list, key, target, i, ok)
		}
	}
}

func TestPlansThatAreWrong(t *testing.T) {
	wants := []struct{ text, plan string }{
		// Cases left out: the first one, the last one, one in between, and all.
		{"1a1,3a1,5a1,7a1,30b1;2", "bits1-3 test4"},
		{"1a1,3a1,5a1,7a1,30b1;2", "bits0-3"},
		{"1a1,3a1,5a1,7a1,30b1;2", "bits0-2 test4"},
		{"1a1,3a1,5a1,7a1,30b1;2", "test0 table2-4"},
		{"1a1,3a1,5a1,7a1,30b1;2", "-"},
		{"0-31a1;0", "-"},
		// Cases that are there twice.
		{"1a1,3a1,5a1,7a1,30b1;2", "test0 bits0-3 test4"},
		{"1a1,3a1,5a1,7a1,30b1;2", "bits0-3 table3-4"},
		{"1a1,3a1,5a1,7a1,30b1;2", "bits0-3 test4 test4"},
		{"1a1,3a1,5a1,7a1,30b1;2", "table0-4 table0-4"},
		{"1a1,3a1,5a1,7a1,30b1;2", "table0-4 test4"},
		{"0-31a1;0", "test0 test0"},
		// Another order.
		{"1a1,3a1,5a1,7a1,30b1;2", "test4 bits0-3"},
		{"1a1,3a1,5a1,7a1,30b1;2", "test1 test0 bits2-3 test4"},
		{"1a1,3a1,5a1,7a1,30b1;2", "test0 test2 test1 test3 test4"},
		{"0-3a5,7b2;1", "test1 test0"},
		// Clusters that are none.
		{"1a1,3a1,5a1,7a1,30b1;2", "bits0-4"},
		{"1a1,3a1,5a1,7a1,30b1;2", "test0-4"},
		{"1a1,3a1,5a1,7a1,30b1;2", "tree0-4"},
		{"1a1,3a1,5a1,7a1,30b1;2", "0-4"},
		{"1a1,3a1,5a1,7a1,30b1;2", "bits0-3 tree4"},
		{"1a1,3a1,5a1,7a1,30b1;2", "test0-1 bits2-3 test4"},
		{"1a1,3a1,5a1,7a1,30b1;2", "bits0-2 bits3-4"},
		{"0-16a1;0", "bits0"},
		{"0a1,16b1;0", "bits0-1"},
		{"15a1,31b1;0", "bits0-1"},
		// Indices of no case, and First greater than Last.
		{"1a1,3a1,5a1,7a1,30b1;2", "table0-5"},
		{"1a1,3a1,5a1,7a1,30b1;2", "table0-4 test5"},
		{"1a1,3a1,5a1,7a1,30b1;2", "table0-4 table5-4"},
		{"1a1,3a1,5a1,7a1,30b1;2", "bits0-3 table4-3 test4"},
		{"0-3a5,7b2;1", "test0 table1-0 test1"},
		{"0-3a5,7b2;1", "test0 test1 test2"},
		// Clusters of no cases.
		{";4", "test0"},
		{";4", "table0"},
		{";4", "table1-0"},
		{";4", "table0-7"},
	}
	for _, want := range wants {
		checkNoPlan(t, want.text, read(t, want.text), plan(t, want.plan))
	}
}

func TestClustersWithIndicesThatAreNone(t *testing.T) {
	for text, s := range validSwitches() {
		best, _ := impl.BestPlan(s)
		for _, wrong := range indicesThatAreNone(len(s.Cases)) {
			for i := range best {
				first, last := slices.Clone(best), slices.Clone(best)
				first[i].First, last[i].Last = wrong, wrong
				checkNoPlan(t, text, s, first)
				checkNoPlan(t, text, s, last)
			}
			for at := range len(best) + 1 {
				for _, c := range []impl.Cluster{{First: wrong, Last: wrong}, {First: wrong, Last: wrong - 1}, {First: 0, Last: wrong}} {
					c.Kind = "table"
					checkNoPlan(t, text, s, slices.Insert(slices.Clone(best), at, c))
				}
			}
		}
		checkNoPlan(t, text, s, slices.Repeat([]impl.Cluster{{Kind: "test"}}, 1<<16))
	}
}

func TestBestPlans(t *testing.T) {
	wants := []struct {
		text  string
		plan  string
		price int
	}{
		{"1a1,3a1,5a1,7a1,30b1;2", "bits0-3 test4", 8},
		{";4", "-", 0},
		{";0", "-", 0},
		{"0-31a1;0", "test0", 3},
		{"31h0;0", "test0", 2},
		{"0a1,31b1;0", "test0 test1", 6},
		{"0-3a5,7b2;1", "table0-1", 6},
		{"0a1,1b1,2c1,3d1;1", "table0-3", 5},
		{"0a1,1b1,2c1,3d1,4e1,5f1,6g1,7h1;0", "table0-7", 6},
		{"0-3a0,4-7b0,8-11c0,12-15d0,16-19e0,20-23f0,24-27g0,28-31h0;0", "table0-7", 12},
		// Bits of a span that is just as great as it may be, and of one key more.
		{"0a1,5b1,10a1,15b1;0", "bits0-3", 6},
		{"0a1,5a1,10a1,16a1;0", "test0 bits1-3", 8}, // and not bits0-2 test3
		{"0a1,5b1,10a1,16b1;0", "table0-3", 8},
		// Plans that cost the same: the one whose first cluster ends first.
		{"0a1,7a1,31a1;0", "bits0-1 test2", 8},
		{"0a1,8b1;0", "test0 test1", 6}, // table0-1 and bits0-1 cost as much
		{"0a1,8b1,31c1;0", "test0 test1 test2", 10},
		{"0a1,15b1,31c1;0", "test0 test1 test2", 10},
		{"0a1,1b1,15c1,16d1;0", "table0-3", 8},
		{"0a1,1b1,30c1,31d1;0", "table0-1 table2-3", 10},
		{"0a1,1b1,2c1,28d1,29e1,30f1;0", "table0-2 table3-5", 10},
		{"0-1a1,2-3b1,13-14c1,30-31d1;0", "table0-2 test3", 12}, // and not table0-3
	}
	for _, want := range wants {
		s := read(t, want.text)
		best, ok := impl.BestPlan(s)
		if got := impl.FormatPlan(best); got != want.plan || !ok {
			t.Errorf("BestPlan(%q) = %s, %v, want %s", want.text, got, ok, want.plan)
		}
		if got := impl.LeastPrice(s); got != want.price {
			t.Errorf("LeastPrice(%q) = %d, want %d", want.text, got, want.price)
		}
		if got := impl.PlanPrice(s, best); got != want.price || !impl.PlanValid(s, best) {
			t.Errorf("PlanPrice(%q, %s) = %d, want %d", want.text, want.plan, got, want.price)
		}
	}
}

// visitPlans hands on all plans that start with some clusters, in the order of their Last and then of their kinds, with their prices.
func visitPlans(s impl.Switch, front []impl.Cluster, price int, visit func(list []impl.Cluster, price int)) {
	first := 0
	if len(front) > 0 {
		first = front[len(front)-1].Last + 1
	}
	if first == len(s.Cases) {
		visit(front, price)
		return
	}
	for last := first; last < len(s.Cases); last++ {
		for _, kind := range kindsOfClusters {
			c := impl.Cluster{First: first, Last: last, Kind: kind}
			more := priceByHand(s, c)
			if more < 0 {
				continue
			}
			if first > 0 {
				more += 2
			}
			visitPlans(s, append(front, c), price+more, visit)
		}
	}
}

// scattered returns a switch of small cases with gaps of all sizes between them, another one for each number.
func scattered(number int) impl.Switch {
	state := uint32(number)
	below := func(n int) int {
		state = state*1664525 + 1013904223
		return int(state>>8) % n
	}
	var s impl.Switch
	most, space := 1+below(5), 1+below(24)
	for low := below(8); low <= impl.MaxKey && len(s.Cases) < most; {
		high := min(low+below(4)/3, impl.MaxKey)
		s.Cases = append(s.Cases, impl.Case{Low: low, High: high, Target: letters[below(3):][:1]})
		low = high + 1 + below(space)
	}
	return s
}

// TestAllPlansOfManySwitches holds the best plans of many switches against all others.
func TestAllPlansOfManySwitches(t *testing.T) {
	list := manySwitches(300)
	for number := range 4000 {
		list = append(list, scattered(number))
	}
	alike, lengths := 0, map[int]int{}
	for _, s := range list {
		var best []impl.Cluster
		least, same := math.MaxInt, 0
		visitPlans(s, nil, 0, func(list []impl.Cluster, price int) {
			if price == least {
				same++
			}
			if price < least {
				best, least, same = slices.Clone(list), price, 0
			}
		})
		text := impl.FormatSwitch(s)
		if got := impl.LeastPrice(s); got != least {
			t.Fatalf("LeastPrice(%q) = %d, want %d", text, got, least)
		}
		if got, ok := impl.BestPlan(s); !slices.Equal(got, best) || !ok {
			t.Fatalf("BestPlan(%q) = %v, %v, want %v", text, got, ok, best)
		}
		alike += min(same, 1)
		lengths[len(best)]++
	}
	if alike < 200 || lengths[1] < 100 || lengths[2] < 100 || lengths[3] < 20 {
		t.Errorf("of the plans, %d cost as much as another one; they have so many clusters: %v", alike, lengths)
	}
}

// TestAllPlansLeadKeysToTargets holds the prices and the runs of all plans of some switches against their cases and keys.
func TestAllPlansLeadKeysToTargets(t *testing.T) {
	count := 0
	for _, s := range manySwitches(120) {
		all, number := targetsByKey(s), 0
		visitPlans(s, nil, 0, func(list []impl.Cluster, price int) {
			// Some plans of each switch, not only those that come first.
			number++
			if number%17 != 0 && number > 4 || number > 1500 {
				return
			}
			count++
			if got := impl.PlanPrice(s, list); got != price || !impl.PlanValid(s, list) {
				t.Fatalf("PlanPrice(%q, %v) = %d, want %d", impl.FormatSwitch(s), list, got, price)
			}
			checkRuns(t, s, list, all)
		})
	}
	if count < 1000 {
		t.Errorf("only %d plans were tried", count)
	}
}

// checkRuns reports keys that a plan leads elsewhere, or finds in another cluster.
func checkRuns(t *testing.T, s impl.Switch, list []impl.Cluster, all string) {
	t.Helper()
	var within [impl.MaxKey + 1]int
	for i := range within {
		within[i] = -1
	}
	for i, c := range list {
		for key := s.Cases[c.First].Low; key <= s.Cases[c.Last].High; key++ {
			within[key] = i
		}
	}
	for key, want := range within {
		if target, i, ok := impl.RunPlan(s, list, key); target != all[key:key+1] || i != want || !ok {
			t.Fatalf("RunPlan(%q, %v, %d) = %q, %d, %v, want %q, %d", impl.FormatSwitch(s), list, key, target, i, ok, all[key:key+1], want)
		}
	}
}

func TestPlansLeadKeysToTargets(t *testing.T) {
	wants := []struct {
		text   string
		plan   string
		key    int
		target string
		index  int
	}{
		// Ends of spans, keys without a case within a span, and keys of no span.
		{"1a1,3a1,5a1,7a1,30b1;2", "bits0-3 test4", 0, "z", -1},
		{"1a1,3a1,5a1,7a1,30b1;2", "bits0-3 test4", 1, "a", 0},
		{"1a1,3a1,5a1,7a1,30b1;2", "bits0-3 test4", 2, "z", 0},
		{"1a1,3a1,5a1,7a1,30b1;2", "bits0-3 test4", 7, "a", 0},
		{"1a1,3a1,5a1,7a1,30b1;2", "bits0-3 test4", 8, "z", -1},
		{"1a1,3a1,5a1,7a1,30b1;2", "bits0-3 test4", 29, "z", -1},
		{"1a1,3a1,5a1,7a1,30b1;2", "bits0-3 test4", 30, "b", 1},
		{"1a1,3a1,5a1,7a1,30b1;2", "bits0-3 test4", 31, "z", -1},
		// Other plans have other spans.
		{"1a1,3a1,5a1,7a1,30b1;2", "table0-4", 8, "z", 0},
		{"1a1,3a1,5a1,7a1,30b1;2", "table0-4", 30, "b", 0},
		{"1a1,3a1,5a1,7a1,30b1;2", "table0-4", 31, "z", -1},
		{"1a1,3a1,5a1,7a1,30b1;2", "test0 test1 test2 test3 test4", 2, "z", -1},
		{"1a1,3a1,5a1,7a1,30b1;2", "test0 test1 test2 test3 test4", 7, "a", 3},
		{"1a1,3a1,5a1,7a1,30b1;2", "test0 test1 table2-4", 4, "z", -1},
		{"1a1,3a1,5a1,7a1,30b1;2", "test0 test1 table2-4", 9, "z", 2},
		// Clusters without keys between them.
		{"0-15a1,16-31b1;0", "bits0 bits1", 15, "a", 0},
		{"0-15a1,16-31b1;0", "bits0 bits1", 16, "b", 1},
		{"0-15a1,16-31b1;0", "bits0 bits1", 31, "b", 1},
		{"0-31a1;0", "test0", 0, "a", 0},
		{"0-31a1;0", "test0", 31, "a", 0},
		// No clusters.
		{";4", "-", 0, "z", -1},
		{";4", "-", 31, "z", -1},
	}
	for _, want := range wants {
		target, i, ok := impl.RunPlan(read(t, want.text), plan(t, want.plan), want.key)
		if target != want.target || i != want.index || !ok {
			t.Errorf("RunPlan(%q, %s, %d) = %q, %d, %v, want %q, %d", want.text, want.plan, want.key, target, i, ok, want.target, want.index)
		}
	}
}

func TestPlansOfNumbersThatAreNoKeys(t *testing.T) {
	for text, s := range validSwitches() {
		best, _ := impl.BestPlan(s)
		for _, key := range numbersThatAreNoKeys() {
			if target, i, ok := impl.RunPlan(s, best, key); target != "" || i != 0 || ok {
				t.Errorf("RunPlan(%q, %v, %d) = %q, %d, %v", text, best, key, target, i, ok)
			}
		}
	}
}

func TestTextsOfPlans(t *testing.T) {
	wants := []struct {
		plan []impl.Cluster
		text string
	}{
		{nil, "-"},
		{[]impl.Cluster{}, "-"},
		{[]impl.Cluster{{First: 0, Last: 3, Kind: "bits"}, {First: 4, Last: 4, Kind: "test"}}, "bits0-3 test4"},
		{[]impl.Cluster{{First: 0, Last: 0, Kind: "test"}}, "test0"},
		{[]impl.Cluster{{First: 0, Last: 7, Kind: "table"}}, "table0-7"},
		{[]impl.Cluster{{First: 6, Last: 7, Kind: "table"}, {First: 0, Last: 0, Kind: "table"}, {First: 5, Last: 5, Kind: "bits"}}, "table6-7 table0 bits5"},
		// Clusters that are none of any switch have texts all the same.
		{[]impl.Cluster{{}}, "0"},
		{[]impl.Cluster{{}, {}}, "0 0"},
		{[]impl.Cluster{{First: 3, Last: 1, Kind: "tree"}}, "tree3-1"},
		{[]impl.Cluster{{First: -1, Last: -1, Kind: "test"}, {First: -12, Last: -10, Kind: "\xff "}}, "test-1 \xff -12--10"},
		{[]impl.Cluster{{First: 100, Last: 2000, Kind: "table"}}, "table100-2000"},
		{[]impl.Cluster{{First: math.MinInt, Last: math.MaxInt}}, "-9223372036854775808-9223372036854775807"},
	}
	for _, want := range wants {
		if got := impl.FormatPlan(want.plan); got != want.text {
			t.Errorf("FormatPlan(%v) = %q, want %q", want.plan, got, want.text)
		}
	}
	long := impl.FormatPlan(slices.Repeat([]impl.Cluster{{First: 1, Last: 1, Kind: "test"}}, 5000))
	if want := strings.TrimSuffix(strings.Repeat("test1 ", 5000), " "); long != want {
		t.Errorf("a long plan has %d bytes, want %d", len(long), len(want))
	}
}

func TestNoClustersOfSwitchesThatAreNotValid(t *testing.T) {
	for name, s := range wrongSwitches() {
		for _, indices := range [][2]int{{0, 0}, {0, 1}, {1, 1}, {0, 2}, {0, 8}, {-1, 0}, {1, 0}, {0, len(s.Cases) - 1}} {
			checkNoCases(t, name, s, indices[0], indices[1])
		}
		for _, text := range []string{"-", "test0", "table0", "bits0", "table0-1", "test0 test1", "table0-2", "table0-8"} {
			checkNoPlan(t, name, s, plan(t, text))
		}
		if list, ok := impl.BestPlan(s); len(list) != 0 || ok {
			t.Errorf("%s: BestPlan = %v, %v", name, list, ok)
		}
		if got := impl.LeastPrice(s); got != -1 {
			t.Errorf("%s: LeastPrice = %d", name, got)
		}
	}
}

// useClusters calls every function of the chapter that takes a switch.
func useClusters(s impl.Switch) {
	for _, kind := range kindsOfClusters {
		impl.PriceOf(s, impl.Cluster{First: 0, Last: 1, Kind: kind})
	}
	impl.BestKind(s, 0, 1)
	best, _ := impl.BestPlan(s)
	impl.PlanValid(s, best)
	impl.PlanPrice(s, best)
	impl.LeastPrice(s)
	impl.RunPlan(s, best, 7)
}

func TestClustersLeaveArgumentsAsTheyAre(t *testing.T) {
	for _, text := range []string{"0-3a5,7b2;1", "1a1,3a1,5a1,7a1,30b1;2", ";7"} {
		checkStays(t, read(t, text), useClusters)
	}
	s := read(t, "1a1,3a1,5a1,7a1,30b1;2")
	for _, text := range []string{"bits0-3 test4", "test4 bits0-3", "table0-4", "tree0", "-"} {
		list := plan(t, text)
		mark := impl.Cluster{First: 77, Last: 78, Kind: "mark"}
		memory := append(slices.Clone(list), mark, mark)
		before := slices.Clone(memory)
		impl.PlanValid(s, memory[:len(list)])
		impl.PlanPrice(s, memory[:len(list)])
		impl.RunPlan(s, memory[:len(list)], 7)
		impl.FormatPlan(memory[:len(list)])
		if !slices.Equal(memory, before) {
			t.Errorf("the plan has become %v, was %v", memory, before)
		}
	}
}

func TestPlansShareNoMemory(t *testing.T) {
	for _, text := range []string{"1a1,3a1,5a1,7a1,30b1;2", "0a1,8b1,31c1;0", "0-31a1;0"} {
		s := read(t, text)
		one, _ := impl.BestPlan(s)
		two, _ := impl.BestPlan(s)
		want := slices.Clone(two)
		mark := impl.Cluster{First: 77, Last: 78, Kind: "mark"}
		fill(one, mark)
		if !slices.Equal(two, want) || slices.Contains(two[:cap(two)], mark) {
			t.Errorf("BestPlan(%q) has become %v, was %v", text, two[:cap(two)], want)
		}
		if again, _ := impl.BestPlan(s); !slices.Equal(again, want) {
			t.Errorf("BestPlan(%q) keeps %v", text, again)
		}
	}
}
