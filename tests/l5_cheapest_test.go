package tests

import (
	"math"
	"math/bits"
	"slices"
	"strconv"
	"sync"
	"testing"

	"loop.example/keyswitches/impl"
)

// A search tells what is found of the trees of the segments of a switch.
type search struct {
	text, tree         string
	cost, count, depth int
}

// searches returns switches and what is to be found of their trees.
func searches() []search {
	return []search{
		// The document's example.
		{"0-3a5,7b2;1", "(4a,(7z,(8b,z)))", 16, 2, 2},
		// One segment: no comparison, and one tree.
		{";0", "z", 0, 1, 0},
		{";99", "z", 0, 1, 0},
		{"0-31h99;7", "h", 0, 1, 0},
		{"0-31a0;0", "a", 0, 1, 0},
		// Two segments: one tree, whatever they weigh.
		{"0-15a1,16-31b1;0", "(16a,b)", 2, 1, 1},
		{"31a9;3", "(31z,a)", 12, 1, 1},
		{"0a99;0", "(1a,z)", 99, 1, 1},
		// Three segments: the heavier end is by itself, or the first one.
		{"0-9a1,10-19b1,20-31c1;0", "(10a,(20b,c))", 5, 2, 2},
		{"0a2,1b9,2-31c1;0", "(1a,(2b,c))", 22, 1, 2},
		{"0a1,1b9,2-31c2;0", "(2(1a,b),c)", 22, 1, 2},
		{"5a9;2", "(5z,(6a,z))", 24, 2, 2},
		// Weights alike: all trees cost the same, or only the even one is cheapest.
		{"0a0,1b0,2c0;0", "(1a,(2b,(3c,z)))", 0, 5, 2},
		{"0a5,1b5,2c5;5", "(2(1a,b),(3c,z))", 40, 1, 2},
		{"0a1,1b1,2c1,3-31d1;0", "(2(1a,b),(3c,d))", 8, 1, 2},
		// Weights that call for one side.
		{"0a1,1b1,2c9;0", "(2(1a,b),(3c,z))", 22, 1, 2},
		{"0a8,1b4,2c2,3d1,4-31e1;0", "(1a,(2b,(3c,(4d,e))))", 30, 1, 3},
		{"0a1,1b1,2c2,3d4,4-31e8;0", "(4(3(2(1a,b),c),d),e)", 30, 1, 3},
		// Several cheapest trees, of which neither the even nor the heavy one is the first.
		{"0a2,1b1,2c1,3-31d2;0", "(1a,(3(2b,c),d))", 12, 3, 2},
		{"0a1,1b0,2c0,3-31d1;0", "(1a,(3(2b,c),d))", 3, 2, 2},
		// Ends without weight.
		{"0a0,1b9,2-31c0;0", "(1a,(2b,c))", 18, 2, 2},
		// Neighbours with one target are segments of their own.
		{"0-15a1,16-31a2;0", "(16a,a)", 3, 1, 1},
		{"0a9,1a9;0", "(1a,(2a,z))", 27, 1, 2},
	}
}

func TestCheapestTrees(t *testing.T) {
	for _, want := range searches() {
		s := read(t, want.text)
		if tree, ok := impl.CheapestTree(s); tree != want.tree || !ok {
			t.Errorf("CheapestTree(%q) = %q, %v, want %q", want.text, tree, ok, want.tree)
		}
		if cost := impl.LeastCost(s); cost != want.cost {
			t.Errorf("LeastCost(%q) = %d, want %d", want.text, cost, want.cost)
		}
		if count := impl.CountCheapest(s); count != want.count {
			t.Errorf("CountCheapest(%q) = %d, want %d", want.text, count, want.count)
		}
		if depth := impl.LeastDepth(s); depth != want.depth {
			t.Errorf("LeastDepth(%q) = %d, want %d", want.text, depth, want.depth)
		}
		if !impl.IsCheapest(s, want.tree) {
			t.Errorf("IsCheapest(%q, %q) = false", want.text, want.tree)
		}
	}
}

func TestShallowTrees(t *testing.T) {
	wants := []struct {
		text        string
		depth, cost int
		tree        string
	}{
		// The document's example: too small depths, those that cost more, and those that do not matter.
		{"0-3a5,7b2;1", 0, -1, ""},
		{"0-3a5,7b2;1", 1, -1, ""},
		{"0-3a5,7b2;1", 2, 18, "(7(4a,z),(8b,z))"},
		{"0-3a5,7b2;1", 3, 16, "(4a,(7z,(8b,z)))"},
		{"0-3a5,7b2;1", 4, 16, "(4a,(7z,(8b,z)))"},
		{"0-3a5,7b2;1", impl.MaxDepth, 16, "(4a,(7z,(8b,z)))"},
		// One segment has a tree without comparisons.
		{";9", 0, 0, "z"},
		{"0-31h99;7", 0, 0, "h"},
		{"0-31h99;7", 1, 0, "h"},
		{"0-31h99;7", impl.MaxDepth, 0, "h"},
		// Two and three segments.
		{"0-15a1,16-31b1;0", 0, -1, ""},
		{"0-15a1,16-31b1;0", 1, 2, "(16a,b)"},
		{"0-9a1,10-19b1,20-31c1;0", 1, -1, ""},
		{"0-9a1,10-19b1,20-31c1;0", 2, 5, "(10a,(20b,c))"},
		{"0a1,1b9,2-31c2;0", 2, 22, "(2(1a,b),c)"},
		// Depths between the least one and that of the cheapest tree.
		{"0a8,1b4,2c2,3d1,4-31e1;0", 2, -1, ""},
		{"0a8,1b4,2c2,3d1,4-31e1;0", 3, 32, "(1a,(3(2b,c),(4d,e)))"},
		{"0a8,1b4,2c2,3d1,4-31e1;0", 4, 30, "(1a,(2b,(3c,(4d,e))))"},
		{"0a1,1b1,2c2,3d4,4-31e8;0", 3, 32, "(4(2(1a,b),(3c,d)),e)"},
		{"0a1,1b1,2c2,3d4,4-31e8;0", 4, 30, "(4(3(2(1a,b),c),d),e)"},
		// A tree of the same cost that is less deep comes later than the first one.
		{"0a2,1b1,2c1,3-31d2;0", 2, 12, "(2(1a,b),(3c,d))"},
		{"0a2,1b1,2c1,3-31d2;0", 3, 12, "(1a,(3(2b,c),d))"},
		// Without weights, only the depth tells.
		{"0a0,1b0,2c0;0", 2, 0, "(2(1a,b),(3c,z))"},
		{"0a0,1b0,2c0;0", 3, 0, "(1a,(2b,(3c,z)))"},
		{"0a0,1b0,2c0,3-31d0;0", 1, -1, ""},
	}
	for _, want := range wants {
		s := read(t, want.text)
		if cost := impl.ShallowCost(s, want.depth); cost != want.cost {
			t.Errorf("ShallowCost(%q, %d) = %d, want %d", want.text, want.depth, cost, want.cost)
		}
		if tree, ok := impl.ShallowTree(s, want.depth); tree != want.tree || ok != (want.cost >= 0) {
			t.Errorf("ShallowTree(%q, %d) = %q, %v, want %q", want.text, want.depth, tree, ok, want.tree)
		}
	}
}

func TestTreesThatAreCheapest(t *testing.T) {
	wants := []struct {
		text, tree string
		cheapest   bool
	}{
		{"0-3a5,7b2;1", "(4a,(7z,(8b,z)))", true},
		{"0-3a5,7b2;1", "(4a,(8(7z,b),z))", true},
		{"0-3a5,7b2;1", "(7(4a,z),(8b,z))", false},
		{"0-3a5,7b2;1", "(8(4a,(7z,b)),z)", false},
		// Trees that lead some key elsewhere, but cost less or as much.
		{"0-3a5,7b2;1", "z", false},
		{"0-3a5,7b2;1", "(7a,b)", false},
		{"0-3a5,7b2;1", "(5a,(7z,(8b,z)))", false},
		{"0-3a5,7b2;1", "(3a,(7z,(8b,z)))", false},
		{"0-3a5,7b2;1", "(4a,(7z,(31b,z)))", false},
		{"0-3a5,7b2;1", "(4b,(7z,(8a,z)))", false},
		{"0-3a5,7b2;1", "(4a,(7z,b))", false},
		{"0-31a5;0", "z", false},
		{"0-31a5;0", "(31a,b)", false},
		{"0-31a0;0", "(1b,a)", false},
		// More ranges than any switch has.
		{"0-31a0;0", "(1a,(2b,(3a,(4b,(5a,(6b,(7a,(8b,a))))))))", false},
		// Trees that are not made of the segments: neighbours with one target need no comparison.
		{"0a9,1a9;0", "(2a,z)", true},
		{"0a9,1a9;0", "(1a,(2a,z))", true},
		{"0a9,1a9;0", "(2(1a,a),z)", false},
		{"0-15a1,16-31a2;0", "a", true},
		{"0-15a1,16-31a2;0", "(20a,a)", true},
		{"0-15a1,16-31a2;0", "(8a,(16a,a))", false},
		// Comparisons within segments and those that are decided already cost too.
		{";9", "z", true},
		{";9", "(8z,z)", false},
		{"0-15a1,16-31b1;0", "(16a,(24b,b))", false},
		{"0-15a1,16-31b1;0", "(16(16a,c),b)", false},
		{"0-15a1,16-31b1;0", "(24(16a,b),b)", false},
		// But not those that no Low comes to, and those of segments without weight.
		{"0-15a1,16-31a2;0", "(20a,(25a,a))", true},
		{"0-15a1,16-31b0;0", "(16a,(24b,b))", true},
		{"0-31a0;5", "(8a,(24a,a))", true},
		{";0", "(8z,(24z,z))", true},
		{";0", "(8z,(24z,a))", false},
	}
	for _, want := range wants {
		if got := impl.IsCheapest(read(t, want.text), want.tree); got != want.cheapest {
			t.Errorf("IsCheapest(%q, %q) = %v", want.text, want.tree, got)
		}
	}
}

// treesByHand returns all trees that are made of segments, in the document's order.
func treesByHand(list []impl.Case) []string {
	if len(list) == 1 {
		return []string{list[0].Target}
	}
	var trees []string
	for i := 1; i < len(list); i++ {
		others := treesByHand(list[i:])
		for _, less := range treesByHand(list[:i]) {
			for _, other := range others {
				trees = append(trees, "("+strconv.Itoa(list[i].Low)+less+","+other+")")
			}
		}
	}
	return trees
}

// lighter returns a switch with weights that are less than a number, so that many trees cost the same.
func lighter(s impl.Switch, number int) impl.Switch {
	s.Cases, s.Rest = slices.Clone(s.Cases), s.Rest%number
	for i := range s.Cases {
		s.Cases[i].Weight %= number
	}
	return s
}

// TestAllTreesOfManySwitches holds what is found against all trees of switches with few segments.
func TestAllTreesOfManySwitches(t *testing.T) {
	ties, limited := 0, 0
	for i, s := range manySwitches(400) {
		list, _ := impl.SegmentsOf(s)
		if len(list) > 8 {
			continue
		}
		s = lighter(s, []int{100, 2, 3, 5}[i%4])
		list, _ = impl.SegmentsOf(s)
		trees := treesByHand(list)
		costs, depths := make([]int, len(trees)), make([]int, len(trees))
		for i, tree := range trees {
			costs[i], depths[i] = impl.TreeCost(s, tree), impl.TreeDepth(tree)
		}
		text, least, count := impl.FormatSwitch(s), slices.Min(costs), 0
		for i, tree := range trees {
			if costs[i] == least {
				count++
			}
			if got := impl.IsCheapest(s, tree); got != (costs[i] == least) {
				t.Fatalf("IsCheapest(%q, %q) = %v", text, tree, got)
			}
		}
		if count > 1 {
			ties++
		}
		if got := impl.LeastCost(s); got != least {
			t.Fatalf("LeastCost(%q) = %d, want %d", text, got, least)
		}
		if got := impl.CountCheapest(s); got != count {
			t.Fatalf("CountCheapest(%q) = %d, want %d", text, got, count)
		}
		if got := impl.LeastDepth(s); got != slices.Min(depths) {
			t.Fatalf("LeastDepth(%q) = %d, want %d", text, got, slices.Min(depths))
		}
		if tree, ok := impl.CheapestTree(s); tree != trees[slices.Index(costs, least)] || !ok {
			t.Fatalf("CheapestTree(%q) = %q, %v, want %q", text, tree, ok, trees[slices.Index(costs, least)])
		}
		for depth := range impl.MaxDepth + 1 {
			// The first one of the cheapest among those that are not too deep.
			at := -1
			for i := range trees {
				if depths[i] <= depth && (at < 0 || costs[i] < costs[at]) {
					at = i
				}
			}
			wantTree, wantCost := "", -1
			if at >= 0 {
				wantTree, wantCost = trees[at], costs[at]
			}
			if wantCost > least {
				limited++
			}
			if cost := impl.ShallowCost(s, depth); cost != wantCost {
				t.Fatalf("ShallowCost(%q, %d) = %d, want %d", text, depth, cost, wantCost)
			}
			if tree, ok := impl.ShallowTree(s, depth); tree != wantTree || ok != (at >= 0) {
				t.Fatalf("ShallowTree(%q, %d) = %q, %v, want %q", text, depth, tree, ok, wantTree)
			}
		}
	}
	if ties == 0 || limited == 0 {
		t.Errorf("%d switches with several cheapest trees and %d depths that cost more were tried", ties, limited)
	}
}

// leastByHand returns the least cost by the method of Garsia and Wachs, which puts weights together without any tree.
func leastByHand(list []impl.Case) int {
	var weights []int
	for _, c := range list {
		weights = append(weights, c.Weight)
	}
	cost := 0
	for len(weights) > 1 {
		i := 1
		for i < len(weights)-1 && weights[i-1] > weights[i+1] {
			i++
		}
		together := weights[i-1] + weights[i]
		cost += together
		weights = slices.Delete(weights, i-1, i+1)
		at := i - 1
		for at > 0 && weights[at-1] < together {
			at--
		}
		weights = slices.Insert(weights, at, together)
	}
	return cost
}

// shallowByHand returns the least cost of trees that are not too deep, -1 if there are none. It keeps in known what it has found so far.
func shallowByHand(list []impl.Case, depth int, known map[[3]int]int) int {
	if len(list) == 1 {
		return 0
	}
	if depth == 0 {
		return -1
	}
	key := [3]int{list[0].Low, list[len(list)-1].Low, depth}
	if cost, ok := known[key]; ok {
		return cost
	}
	least, weight := -1, 0
	for _, c := range list {
		weight += c.Weight
	}
	for i := 1; i < len(list); i++ {
		one, two := shallowByHand(list[:i], depth-1, known), shallowByHand(list[i:], depth-1, known)
		if one >= 0 && two >= 0 && (least < 0 || weight+one+two < least) {
			least = weight + one + two
		}
	}
	known[key] = least
	return least
}

// checkFound reports a tree that is not what was to be found of a switch.
func checkFound(t *testing.T, s impl.Switch, tree string, depth, cost int) {
	t.Helper()
	list, _ := impl.SegmentsOf(s)
	if !impl.TreeRight(s, tree) || impl.CountNodes(tree) != len(list)-1 || impl.TreeDepth(tree) > depth || impl.TreeCost(s, tree) != cost {
		t.Fatalf("%q of %q: right %v, %d comparisons, depth %d, cost %d, want %d", tree, impl.FormatSwitch(s),
			impl.TreeRight(s, tree), impl.CountNodes(tree), impl.TreeDepth(tree), impl.TreeCost(s, tree), cost)
	}
}

// TestCheapestTreesOfManySwitches holds costs against those that are found in another way.
func TestCheapestTreesOfManySwitches(t *testing.T) {
	most := 0
	for _, s := range manySwitches(1500) {
		list, _ := impl.SegmentsOf(s)
		most = max(most, len(list))
		text, want := impl.FormatSwitch(s), leastByHand(list)
		if got := impl.LeastCost(s); got != want {
			t.Fatalf("LeastCost(%q) = %d, want %d", text, got, want)
		}
		tree, ok := impl.CheapestTree(s)
		if checkFound(t, s, tree, impl.MaxDepth, want); !ok || !impl.IsCheapest(s, tree) {
			t.Fatalf("CheapestTree(%q) = %q, %v, IsCheapest = %v", text, tree, ok, impl.IsCheapest(s, tree))
		}
		even, _ := impl.EvenTree(s)
		heavy, _ := impl.HeavyTree(s)
		for _, other := range []string{even, heavy} {
			if cost := impl.TreeCost(s, other); cost < want || impl.IsCheapest(s, other) != (cost == want) {
				t.Fatalf("%q of %q costs %d, least %d, IsCheapest = %v", other, text, cost, want, impl.IsCheapest(s, other))
			}
		}
		if depth := impl.LeastDepth(s); depth != impl.TreeDepth(even) {
			t.Fatalf("LeastDepth(%q) = %d, but %q is as deep as may be", text, depth, even)
		}
	}
	if most != 2*impl.MaxCases+1 {
		t.Errorf("no switch with more than %d segments was tried", most)
	}
}

func TestShallowTreesOfManySwitches(t *testing.T) {
	for _, s := range manySwitches(150) {
		list, _ := impl.SegmentsOf(s)
		text, known := impl.FormatSwitch(s), map[[3]int]int{}
		for depth := range impl.MaxDepth + 1 {
			want := shallowByHand(list, depth, known)
			cost := impl.ShallowCost(s, depth)
			if cost != want || (cost >= 0) != (depth >= impl.LeastDepth(s)) {
				t.Fatalf("ShallowCost(%q, %d) = %d, want %d, LeastDepth = %d", text, depth, cost, want, impl.LeastDepth(s))
			}
			tree, ok := impl.ShallowTree(s, depth)
			if ok != (cost >= 0) || !ok && tree != "" {
				t.Fatalf("ShallowTree(%q, %d) = %q, %v", text, depth, tree, ok)
			}
			if ok {
				checkFound(t, s, tree, depth, cost)
			}
		}
		tree, _ := impl.CheapestTree(s)
		if shallow, ok := impl.ShallowTree(s, impl.MaxDepth); shallow != tree || !ok {
			t.Fatalf("ShallowTree(%q, %d) = %q, want %q", text, impl.MaxDepth, shallow, tree)
		}
	}
}

// alternating returns a switch with a number of segments of one weight, every other one of them a gap.
func alternating(t *testing.T, count, weight int) (impl.Switch, []impl.Case) {
	t.Helper()
	s := impl.Switch{Rest: weight}
	for key := range count {
		// The last segment is a gap, which goes on up to the last key.
		if (count-key)%2 == 0 {
			s.Cases = append(s.Cases, impl.Case{Low: key, High: key, Target: "a", Weight: weight})
		}
	}
	list, ok := impl.SegmentsOf(s)
	if len(list) != count || !ok {
		t.Fatalf("%q has %d segments, want %d", impl.FormatSwitch(s), len(list), count)
	}
	return s, list
}

// TestTreesWithoutWeights counts all trees there are, and holds the first ones against the least border that the depth allows.
func TestTreesWithoutWeights(t *testing.T) {
	counts := []int{1, 1, 2, 5, 14, 42, 132, 429, 1430, 4862, 16796, 58786, 208012, 742900, impl.MaxTrees, impl.MaxTrees, impl.MaxTrees}
	for i, want := range counts {
		s, list := alternating(t, i+1, 0)
		text := impl.FormatSwitch(s)
		if got := impl.CountCheapest(s); got != want || impl.LeastCost(s) != 0 {
			t.Errorf("CountCheapest(%q) = %d, want %d", text, got, want)
		}
		chain := treeByHand(list, func([]impl.Case) int { return 1 })
		if tree, ok := impl.CheapestTree(s); tree != chain || !ok || impl.TreeDepth(tree) != i {
			t.Errorf("CheapestTree(%q) = %q, %v, want %q", text, tree, ok, chain)
		}
		for depth := range impl.MaxDepth + 1 {
			cost, want := 0, firstByHand(list, depth)
			if want == "" {
				cost = -1
			}
			if tree, ok := impl.ShallowTree(s, depth); tree != want || ok != (want != "") || impl.ShallowCost(s, depth) != cost {
				t.Errorf("ShallowTree(%q, %d) = %q, %v, want %q", text, depth, tree, ok, want)
			}
		}
	}
}

// firstByHand returns the first tree that is no deeper than a number: what is behind the border just fits. It is empty if there is none.
func firstByHand(list []impl.Case, depth int) string {
	if len(list) > 1<<depth {
		return ""
	}
	return treeByHandIn(list, depth)
}

// treeByHandIn returns the first tree of segments that fit into a depth.
func treeByHandIn(list []impl.Case, depth int) string {
	if len(list) == 1 {
		return list[0].Target
	}
	i := max(1, len(list)-1<<(depth-1))
	return "(" + strconv.Itoa(list[i].Low) + treeByHandIn(list[:i], depth-1) + "," + treeByHandIn(list[i:], depth-1) + ")"
}

// TestTreesOfOneWeight holds trees against what is known of segments that weigh the same: their ends lie at two depths at most.
func TestTreesOfOneWeight(t *testing.T) {
	for count := 1; count <= 2*impl.MaxCases+1; count++ {
		for _, weight := range []int{1, 7, impl.MaxWeight} {
			s, _ := alternating(t, count, weight)
			full := bits.Len(uint(count)) - 1
			deeper := count - 1<<full
			ways := 1
			for i := range deeper {
				ways = ways * (1<<full - i) / (i + 1)
			}
			text, cost, depth := impl.FormatSwitch(s), weight*(count*full+2*deeper), full
			if deeper > 0 {
				depth++
			}
			if impl.LeastCost(s) != cost || impl.CountCheapest(s) != ways || impl.LeastDepth(s) != depth {
				t.Errorf("%q: LeastCost = %d, want %d, CountCheapest = %d, want %d, LeastDepth = %d, want %d", text,
					impl.LeastCost(s), cost, impl.CountCheapest(s), ways, impl.LeastDepth(s), depth)
			}
			if impl.ShallowCost(s, depth) != cost || depth > 0 && impl.ShallowCost(s, depth-1) != -1 {
				t.Errorf("%q: ShallowCost(%d) = %d, want %d", text, depth, impl.ShallowCost(s, depth), cost)
			}
		}
	}
}

func TestNoCheapestTreesOfSwitchesThatAreNotValid(t *testing.T) {
	for name, s := range wrongSwitches() {
		if tree, ok := impl.CheapestTree(s); tree != "" || ok {
			t.Errorf("%s: CheapestTree = %q, %v", name, tree, ok)
		}
		if cost, count, depth := impl.LeastCost(s), impl.CountCheapest(s), impl.LeastDepth(s); cost != -1 || count != -1 || depth != -1 {
			t.Errorf("%s: LeastCost = %d, CountCheapest = %d, LeastDepth = %d", name, cost, count, depth)
		}
		for _, depth := range []int{-1, 0, 3, impl.MaxDepth, impl.MaxDepth + 1} {
			checkNoShallow(t, name, s, depth)
		}
		for _, tree := range []string{"z", "a", "(2z,(6a,z))", "(2a,z)", "", "x"} {
			if impl.IsCheapest(s, tree) {
				t.Errorf("%s: IsCheapest(%q) = true", name, tree)
			}
		}
	}
}

// checkNoShallow reports a tree where there is to be none.
func checkNoShallow(t *testing.T, name string, s impl.Switch, depth int) {
	t.Helper()
	if tree, ok := impl.ShallowTree(s, depth); tree != "" || ok {
		t.Errorf("%s: ShallowTree(%d) = %q, %v", name, depth, tree, ok)
	}
	if cost := impl.ShallowCost(s, depth); cost != -1 {
		t.Errorf("%s: ShallowCost(%d) = %d", name, depth, cost)
	}
}

func TestDepthsThatAreNone(t *testing.T) {
	for text, s := range validSwitches() {
		for _, depth := range []int{math.MinInt, -17, -1, 17, 18, 32, 100, 1 << 32, math.MaxInt} {
			checkNoShallow(t, text, s, depth)
		}
	}
}

func TestDepthsThatNoTreeKeeps(t *testing.T) {
	for count := 1; count <= 2*impl.MaxCases+1; count++ {
		s, list := alternating(t, count, 3)
		even, _ := impl.EvenTree(s)
		for depth := range impl.TreeDepth(even) {
			checkNoShallow(t, impl.FormatSwitch(s), s, depth)
		}
		for depth := impl.TreeDepth(even); depth <= impl.MaxDepth; depth++ {
			if tree, ok := impl.ShallowTree(s, depth); impl.CountNodes(tree) != len(list)-1 || !ok {
				t.Errorf("%q: ShallowTree(%d) = %q, %v", impl.FormatSwitch(s), depth, tree, ok)
			}
		}
	}
}

func TestTextsThatAreNoCheapestTrees(t *testing.T) {
	texts := append(noTrees(), longTree(impl.MaxTree+1), "(4a,(7z,(8b,z))) ", "(4a,(7z,(08b,z)))", "(4a,(7z,(8b,z))", "(4a,(7z,(8b,)))")
	for _, s := range validSwitches() {
		for _, tree := range texts {
			if impl.IsCheapest(s, tree) {
				t.Errorf("IsCheapest(%q, %.60q) = true", impl.FormatSwitch(s), tree)
			}
		}
	}
}

// TestTreesThatLeadKeysElsewhere changes the cheapest trees so that one target of them is wrong.
func TestTreesThatLeadKeysElsewhere(t *testing.T) {
	for _, s := range manySwitches(200) {
		tree, _ := impl.CheapestTree(s)
		for i, b := range []byte(tree) {
			if b < 'a' {
				continue
			}
			for _, other := range []byte("abcdefghz") {
				wrong := tree[:i] + string(other) + tree[i+1:]
				if impl.IsCheapest(s, wrong) != (wrong == tree) {
					t.Fatalf("IsCheapest(%q, %q) = %v", impl.FormatSwitch(s), wrong, wrong != tree)
				}
			}
		}
	}
}

// useCheapest calls every function of the chapter.
func useCheapest(s impl.Switch) {
	impl.CheapestTree(s)
	impl.LeastCost(s)
	impl.ShallowTree(s, 3)
	impl.ShallowCost(s, 3)
	impl.LeastDepth(s)
	impl.CountCheapest(s)
	impl.IsCheapest(s, "(4a,(7z,(8b,z)))")
}

func TestCheapestTreesLeaveArgumentsAsTheyAre(t *testing.T) {
	for _, text := range []string{"0-3a5,7b2;1", "0-3a5,4a2,9b1;1", "0-15a1,16-31a2;0", ";7"} {
		checkStays(t, read(t, text), useCheapest)
	}
}

// TestCheapestTreesOfManyCallers calls functions at the same time, and again and again, for the same results.
func TestCheapestTreesOfManyCallers(t *testing.T) {
	texts := []string{"0-3a5,7b2;1", "0a8,1b4,2c2,3d1,4-31e1;0", "1a1,3b2,5c3,7d4,9e5,11f6,13g7,15h8;1", "1a0,3b0,5c0,7d0,9e0,11f0,13g0,15h0;0", ";4"}
	type result struct {
		tree, shallow                  string
		ok, shallowOk                  bool
		cost, shallowCost, count, deep int
	}
	resultOf := func(s impl.Switch) (r result) {
		r.tree, r.ok = impl.CheapestTree(s)
		r.shallow, r.shallowOk = impl.ShallowTree(s, 3)
		r.cost, r.shallowCost, r.count, r.deep = impl.LeastCost(s), impl.ShallowCost(s, 3), impl.CountCheapest(s), impl.LeastDepth(s)
		return r
	}
	var callers sync.WaitGroup
	for _, text := range texts {
		s := read(t, text)
		want := resultOf(s)
		for range 4 {
			callers.Go(func() {
				for range 25 {
					if got := resultOf(s); got != want {
						t.Errorf("%q: %v, want %v", text, got, want)
					}
				}
			})
		}
	}
	callers.Wait()
}
