package tests

import (
	"math"
	"regexp"
	"slices"
	"strconv"
	"strings"
	"testing"

	"loop.example/keyswitches/impl"
)

// A planting tells which trees are made of the segments of a switch, and what they cost.
type planting struct {
	text, even, heavy string
	evenCost, cost    int
}

// plantings returns switches and what is to come of their trees.
func plantings() []planting {
	return []planting{
		// The document's example.
		{"0-3a5,7b2;1", "(7(4a,z),(8b,z))", "(4a,(7z,(8b,z)))", 18, 16},
		// One segment: no comparison.
		{";4", "z", "z", 0, 0},
		{";0", "z", "z", 0, 0},
		{"0-31h99;7", "h", "h", 0, 0},
		// Two and three segments, of which the middle one begins the second side.
		{"0-15a1,16-31b1;0", "(16a,b)", "(16a,b)", 2, 2},
		{"31a9;3", "(31z,a)", "(31z,a)", 12, 12},
		{"1-31a9;3", "(1z,a)", "(1z,a)", 12, 12},
		{"5a1;1", "(5z,(6a,z))", "(5z,(6a,z))", 5, 5},
		{"0a1,1b1,2c9;0", "(2(1a,b),(3c,z))", "(2(1a,b),(3c,z))", 22, 22},
		// Segments without weight: any border is as good, so the first one is it.
		{"0a0,1b0,2c0;0", "(2(1a,b),(3c,z))", "(1a,(2b,(3c,z)))", 0, 0},
		{"5a0,7b0;0", "(6(5z,a),(7z,(8b,z)))", "(5z,(6a,(7z,(8b,z))))", 0, 0},
		{"0a0,1b0,2-31c7;9", "(1a,(2b,c))", "(1a,(2b,c))", 14, 14},
		{"0-9a7,10b0,11-31c0;9", "(10a,(11b,c))", "(10a,(11b,c))", 7, 7},
		{"0a0,1b4,2c0,3-31d4;0", "(2(1a,b),(3c,d))", "(2(1a,b),(3c,d))", 16, 16},
		{"0a0,1b8,2c0,3-31d0;0", "(2(1a,b),(3c,d))", "(1a,(2b,(3c,d)))", 16, 16},
		// The difference tells, whichever side weighs more.
		{"0a3,1b2,2-31c2;0", "(1a,(2b,c))", "(1a,(2b,c))", 11, 11},
		{"0a2,1b2,2-31c3;0", "(1a,(2b,c))", "(2(1a,b),c)", 12, 11},
		{"0a99,1b1,2c1,3-31d1;0", "(2(1a,b),(3c,d))", "(1a,(2b,(3c,d)))", 204, 107},
		{"0a1,1b1,2c1,3-31d99;0", "(2(1a,b),(3c,d))", "(3(1a,(2b,c)),d)", 204, 107},
		// Two borders are as good as each other, so the first one is it.
		{"0a1,1b2,2-31c1;0", "(1a,(2b,c))", "(1a,(2b,c))", 7, 7},
		{"0a3,1b4,2c4,3-31d3;0", "(2(1a,b),(3c,d))", "(2(1a,b),(3c,d))", 28, 28},
		{"0a5,1b0,2c0,3-31d5;0", "(2(1a,b),(3c,d))", "(1a,(2b,(3c,d)))", 20, 20},
		// Neighbours with one target are segments of their own.
		{"0-15a1,16-31a2;0", "(16a,a)", "(16a,a)", 3, 3},
		{"4a1,5a1;0", "(5(4z,a),(6a,z))", "(5(4z,a),(6a,z))", 4, 4},
		// As many segments as there may be.
		{"1a1,3b2,5c3,7d4,9e5,11f6,13g7,15h8;1",
			"(8(4(2(1z,a),(3z,b)),(6(5z,c),(7z,d))),(12(10(9z,e),(11z,f)),(14(13z,g),(15z,(16h,z)))))",
			"(11(7(4(2(1z,a),(3z,b)),(5z,(6c,z))),(9(8d,z),(10e,z))),(14(13(12f,z),g),(15z,(16h,z))))", 189, 181},
	}
}

func TestTreesOfSegments(t *testing.T) {
	for _, want := range plantings() {
		s := read(t, want.text)
		if got, ok := impl.EvenTree(s); got != want.even || !ok {
			t.Errorf("EvenTree(%q) = %q, %v, want %q", want.text, got, ok, want.even)
		}
		if got, ok := impl.HeavyTree(s); got != want.heavy || !ok {
			t.Errorf("HeavyTree(%q) = %q, %v, want %q", want.text, got, ok, want.heavy)
		}
		if got := impl.TreeCost(s, want.even); got != want.evenCost || !impl.TreeRight(s, want.even) {
			t.Errorf("TreeCost(%q, %q) = %d, want %d", want.text, want.even, got, want.evenCost)
		}
		if got := impl.TreeCost(s, want.heavy); got != want.cost || !impl.TreeRight(s, want.heavy) {
			t.Errorf("TreeCost(%q, %q) = %d, want %d", want.text, want.heavy, got, want.cost)
		}
	}
}

// treeByHand returns the tree of segments that are parted where a function says, by the document's words.
func treeByHand(list []impl.Case, border func(list []impl.Case) int) string {
	if len(list) == 1 {
		return list[0].Target
	}
	i := border(list)
	return "(" + strconv.Itoa(list[i].Low) + treeByHand(list[:i], border) + "," + treeByHand(list[i:], border) + ")"
}

// heavyByHand returns the first index with the least difference of the sums on both sides.
func heavyByHand(list []impl.Case) int {
	weigh := func(part []impl.Case) (sum int) {
		for _, c := range part {
			sum += c.Weight
		}
		return sum
	}
	best, least := 0, math.MaxInt
	for i := 1; i < len(list); i++ {
		one, two := weigh(list[:i]), weigh(list[i:])
		if difference := max(one, two) - min(one, two); difference < least {
			best, least = i, difference
		}
	}
	return best
}

// TestTreesOfManySwitches holds the trees of segments against their keys one by one.
func TestTreesOfManySwitches(t *testing.T) {
	differ := 0
	for _, s := range manySwitches(3000) {
		text, targets := impl.FormatSwitch(s), targetsByKey(s)
		list, _ := impl.SegmentsOf(s)
		even, one := impl.EvenTree(s)
		heavy, two := impl.HeavyTree(s)
		if want := treeByHand(list, func(list []impl.Case) int { return len(list) / 2 }); even != want || !one {
			t.Fatalf("EvenTree(%q) = %q, %v, want %q", text, even, one, want)
		}
		if want := treeByHand(list, heavyByHand); heavy != want || !two {
			t.Fatalf("HeavyTree(%q) = %q, %v, want %q", text, heavy, two, want)
		}
		if even != heavy {
			differ++
		}
		for _, tree := range []string{even, heavy} {
			if !impl.TreeValid(tree) || !impl.TreeRight(s, tree) || impl.CountNodes(tree) != len(list)-1 {
				t.Fatalf("%q of %q: valid %v, right %v, %d comparisons", tree, text, impl.TreeValid(tree), impl.TreeRight(s, tree), impl.CountNodes(tree))
			}
			for key := range impl.MaxKey + 1 {
				if target, _, ok := impl.RunTree(tree, key); target != targets[key:key+1] || !ok {
					t.Fatalf("RunTree(%q, %d) = %q, %v for %q", tree, key, target, ok, text)
				}
			}
			checkCost(t, s, tree)
		}
		if depth := impl.TreeDepth(even); 1<<depth < len(list) || depth > 0 && 1<<(depth-1) >= len(list) {
			t.Fatalf("TreeDepth(%q) = %d for %d segments", even, depth, len(list))
		}
	}
	if differ == 0 {
		t.Error("no switch whose trees differ was tried")
	}
}

// checkCost holds what a tree costs against what its runs cost, whether it is right or not.
func checkCost(t *testing.T, s impl.Switch, tree string) {
	t.Helper()
	list, _ := impl.SegmentsOf(s)
	want := 0
	for _, c := range list {
		_, steps, _ := impl.RunTree(tree, c.Low)
		want += steps * c.Weight
	}
	if got := impl.TreeCost(s, tree); got != want {
		t.Fatalf("TreeCost(%q, %q) = %d, want %d", impl.FormatSwitch(s), tree, got, want)
	}
}

// A grown tree has a text, and what is to come of it for each key.
type grown struct {
	text         string
	targets      [impl.MaxKey + 1]byte
	steps        [impl.MaxKey + 1]int
	depth, nodes int
}

// leaf returns a tree that is a target.
func leaf(target byte) grown {
	g := grown{text: string([]byte{target})}
	for key := range g.targets {
		g.targets[key] = target
	}
	return g
}

// join returns a tree that is a comparison.
func join(number int, one, two grown) grown {
	g := grown{
		text:  "(" + strconv.Itoa(number) + one.text + "," + two.text + ")",
		depth: 1 + max(one.depth, two.depth), nodes: 1 + one.nodes + two.nodes,
	}
	for key := range g.targets {
		side := two
		if key < number {
			side = one
		}
		g.targets[key], g.steps[key] = side.targets[key], side.steps[key]+1
	}
	return g
}

// manyTrees returns trees of all shapes, the same ones each time, many of them with comparisons that are decided already.
func manyTrees(count int) []grown {
	state := uint32(7)
	below := func(n int) int {
		state = state*1664525 + 1013904223
		return int(state>>8) % n
	}
	var list []grown
	for len(list) < count {
		letters := "abcdefghz"[below(8):]
		letters = letters[:1+below(len(letters))] + "z"[:below(2)]
		var parts []grown
		var lows []int
		for low, space := 0, 1+below(5); low <= impl.MaxKey; low += 1 + below(space) {
			parts, lows = append(parts, leaf(letters[below(len(letters))])), append(lows, low)
		}
		// None, some or all comparisons are with other numbers than those at which targets change.
		wild := below(4)
		for len(parts) > 1 {
			i := below(len(parts) - 1)
			number := lows[i+1]
			if below(3) < wild {
				number = 1 + below(impl.MaxKey)
			}
			parts, lows = slices.Replace(parts, i, i+2, join(number, parts[i], parts[i+1])), slices.Delete(lows, i+1, i+2)
		}
		if len(parts[0].text) <= impl.MaxTree {
			list = append(list, parts[0])
		}
	}
	return list
}

func TestTreesOfAllShapes(t *testing.T) {
	for _, g := range manyTrees(4000) {
		if !impl.TreeValid(g.text) {
			t.Fatalf("TreeValid(%q) = false", g.text)
		}
		if depth, nodes := impl.TreeDepth(g.text), impl.CountNodes(g.text); depth != g.depth || nodes != g.nodes {
			t.Fatalf("TreeDepth(%q) = %d, want %d, CountNodes = %d, want %d", g.text, depth, g.depth, nodes, g.nodes)
		}
		for key := range impl.MaxKey + 1 {
			if target, steps, ok := impl.RunTree(g.text, key); target != string(g.targets[key]) || steps != g.steps[key] || !ok {
				t.Fatalf("RunTree(%q, %d) = %q, %d, %v, want %q, %d", g.text, key, target, steps, ok, g.targets[key], g.steps[key])
			}
		}
	}
}

// TestSwitchesOfAllShapes holds the switches of trees against their keys one by one.
func TestSwitchesOfAllShapes(t *testing.T) {
	few, many := 0, 0
	for _, g := range manyTrees(4000) {
		var want impl.Switch
		for key, target := range g.targets {
			switch {
			case target == 'z':
			case key > 0 && g.targets[key-1] == target:
				want.Cases[len(want.Cases)-1].High = key
			default:
				want.Cases = append(want.Cases, impl.Case{Low: key, High: key, Target: string(target)})
			}
		}
		valid := len(want.Cases) <= impl.MaxCases
		if valid {
			few++
		} else {
			want = impl.Switch{}
			many++
		}
		s, ok := impl.SwitchOf(g.text)
		if !slices.Equal(s.Cases, want.Cases) || s.Rest != 0 || ok != valid {
			t.Fatalf("SwitchOf(%q) = %v, %v, want %v", g.text, s, ok, want)
		}
		if impl.TreeRight(s, g.text) != valid {
			t.Fatalf("TreeRight(%v, %q) = %v", s, g.text, !valid)
		}
	}
	if few == 0 || many == 0 {
		t.Errorf("%d trees with a switch and %d without one were tried", few, many)
	}
}

// TestRightTreesHeldAgainstKeys holds trees against switches that they were not made of.
func TestRightTreesHeldAgainstKeys(t *testing.T) {
	switches, right := manySwitches(3000), 0
	for i, g := range manyTrees(3000) {
		other, _ := impl.EvenTree(altered(switches[i], i))
		for _, s := range []impl.Switch{switches[i], {Rest: i % 100}, only(0, impl.MaxKey, string(g.targets[0]), 5)} {
			for _, tree := range []string{g.text, other} {
				if !impl.SwitchValid(s) {
					continue
				}
				want := true
				for key := range impl.MaxKey + 1 {
					target, _, _ := impl.RunTree(tree, key)
					led, _ := impl.TargetOf(s, key)
					want = want && target == led
				}
				if want {
					right++
				}
				if got := impl.TreeRight(s, tree); got != want {
					t.Fatalf("TreeRight(%q, %q) = %v", impl.FormatSwitch(s), tree, got)
				}
				checkCost(t, s, tree)
			}
		}
	}
	if right == 0 {
		t.Error("no tree that is right was tried")
	}
}

func TestTreesLeadKeysToTargets(t *testing.T) {
	wants := []struct {
		tree   string
		key    int
		target string
		steps  int
	}{
		{"(7(4a,z),(8b,z))", 0, "a", 2},
		{"(7(4a,z),(8b,z))", 3, "a", 2},
		{"(7(4a,z),(8b,z))", 4, "z", 2},
		{"(7(4a,z),(8b,z))", 7, "b", 2},
		{"(7(4a,z),(8b,z))", 31, "z", 2},
		{"h", 0, "h", 0},
		{"z", 31, "z", 0},
		{"(1a,b)", 0, "a", 1},
		{"(1a,b)", 1, "b", 1},
		{"(31a,b)", 30, "a", 1},
		{"(31a,b)", 31, "b", 1},
		// Trees of one target still compare.
		{"(16a,a)", 3, "a", 1},
		{"(16a,(20a,a))", 31, "a", 2},
		// Comparisons that are decided already are made all the same.
		{"(7(9a,b),c)", 6, "a", 2},
		{"(7(9a,b),c)", 7, "c", 1},
		{"(7c,(5a,b))", 7, "b", 2},
		{"(7c,(5a,b))", 5, "c", 1},
		{"(9(9a,b),(9c,d))", 8, "a", 2},
		{"(9(9a,b),(9c,d))", 9, "d", 2},
	}
	for _, want := range wants {
		target, steps, ok := impl.RunTree(want.tree, want.key)
		if target != want.target || steps != want.steps || !ok {
			t.Errorf("RunTree(%q, %d) = %q, %d, %v, want %q, %d", want.tree, want.key, target, steps, ok, want.target, want.steps)
		}
	}
}

func TestDepthsAndComparisons(t *testing.T) {
	wants := []struct {
		tree         string
		depth, nodes int
	}{
		{"a", 0, 0}, {"z", 0, 0}, {"(31a,b)", 1, 1}, {"(7(4a,z),(8b,z))", 2, 3},
		{"(3(1a,b),c)", 2, 2}, {"(1a,(3b,c))", 2, 2}, {"(4a,(7z,(8b,z)))", 3, 3}, {"(4(3(2a,b),c),(5d,e))", 3, 4},
		// Comparisons count also where they are decided already, or lead to one target.
		{"(7(9a,b),c)", 2, 2}, {"(7(7(7a,a),a),a)", 3, 3},
	}
	for _, want := range wants {
		if depth, nodes := impl.TreeDepth(want.tree), impl.CountNodes(want.tree); depth != want.depth || nodes != want.nodes {
			t.Errorf("TreeDepth(%q) = %d, want %d, CountNodes = %d, want %d", want.tree, depth, want.depth, nodes, want.nodes)
		}
	}
}

func TestSwitchesOfTrees(t *testing.T) {
	for tree, want := range map[string]string{
		"(7(4a,z),(8b,z))": "0-3a0,7b0;0",
		"z":                ";0",
		"a":                "0-31a0;0",
		// Trees of one target.
		"(16a,a)":                       "0-31a0;0",
		"(16z,z)":                       ";0",
		"(5(3h,h),(9h,h))":              "0-31h0;0",
		"(16a,(20a,b))":                 "0-19a0,20-31b0;0",
		"(8(4a,b),(12b,a))":             "0-3a0,4-11b0,12-31a0;0",
		"(8(4a,z),(12z,a))":             "0-3a0,12-31a0;0",
		"(31z,h)":                       "31h0;0",
		"(1h,z)":                        "0h0;0",
		"(1z,(31(30a,b),z))":            "1-29a0,30b0;0",
		"(9a,(10z,(11a,z)))":            "0-8a0,10a0;0",
		"(10(9a,(2h,z)),a)":             "0-8a0,10-31a0;0",
		"(16(8(4a,b),c),(24d,(28e,f)))": "0-3a0,4-7b0,8-15c0,16-23d0,24-27e0,28-31f0;0",
		// Comparisons that are decided already: no key comes to some targets.
		"(5(9a,b),z)":            "0-4a0;0",
		"(5z,(3a,b))":            "5-31b0;0",
		"(9(9a,b),(9c,d))":       "0-8a0,9-31d0;0",
		"(5(9a,b),(5c,a))":       "0-31a0;0",
		"(8(4a,(2b,z)),(20b,z))": "0-3a0,8-19b0;0",
		// As many cases as there may be, also with more ends.
		"(1a,(2b,(3a,(4b,(5a,(6b,(7a,(8b,z))))))))":                                          "0a0,1b0,2a0,3b0,4a0,5b0,6a0,7b0;0",
		"(1a,(2b,(3a,(4b,(5a,(6b,(7a,(8b,(9z,z)))))))))":                                     "0a0,1b0,2a0,3b0,4a0,5b0,6a0,7b0;0",
		"(1a,(2b,(3a,(4b,(5a,(6b,(7a,(8b,(8c,b)))))))))":                                     "0a0,1b0,2a0,3b0,4a0,5b0,6a0,7-31b0;0",
		"(1a,(2z,(3a,(4z,(5a,(6z,(7a,(8z,(9a,(10z,(11a,(12z,(13a,(14z,(15a,z)))))))))))))))": "0a0,2a0,4a0,6a0,8a0,10a0,12a0,14a0;0",
	} {
		if s, ok := impl.SwitchOf(tree); impl.FormatSwitch(s) != want || !ok {
			t.Errorf("SwitchOf(%q) = %q, %v, want %q", tree, impl.FormatSwitch(s), ok, want)
		}
	}
	for _, tree := range []string{
		"(1a,(2b,(3a,(4b,(5a,(6b,(7a,(8b,a))))))))",
		"(1a,(2b,(3c,(4d,(5e,(6f,(7g,(8h,(9z,a)))))))))",
		"(1a,(2z,(3a,(4z,(5a,(6z,(7a,(8z,(9a,(10z,(11a,(12z,(13a,(14z,(15a,(16z,a))))))))))))))))",
	} {
		if s, ok := impl.SwitchOf(tree); len(s.Cases) != 0 || s.Rest != 0 || ok {
			t.Errorf("SwitchOf(%q) = %v, %v", tree, s, ok)
		}
		if impl.TreeDepth(tree) < 8 {
			t.Errorf("TreeDepth(%q) = %d", tree, impl.TreeDepth(tree))
		}
	}
}

func TestRightTreesAndCosts(t *testing.T) {
	wants := []struct {
		text, tree string
		right      bool
		cost       int
	}{
		{"0-3a5,7b2;1", "(7(4a,z),(8b,z))", true, 18},
		{"0-3a5,7b2;1", "(4a,(7z,(8b,z)))", true, 16},
		// Trees that are not right cost something too, and a target costs nothing.
		{"0-3a5,7b2;1", "(7a,b)", false, 9},
		{"0-3a5,7b2;1", "z", false, 0},
		{"0-3a5,7b2;1", "(7(5a,z),(8b,z))", false, 18},
		{"0-3a5,7b2;1", "(7(4a,z),(31b,z))", false, 18},
		{"0-3a5,7b2;1", "(7(4b,z),(8a,z))", false, 18},
		// One key too many, at either end.
		{"1-31a5;0", "(1z,a)", true, 5},
		{"1-31a5;0", "a", false, 0},
		{"0-30a5;0", "(31a,z)", true, 5},
		{"0-30a5;0", "(30a,z)", false, 5},
		// Trees that are not made of all segments, or of others.
		{"0-15a1,16-31a2;0", "a", true, 0},
		{"0-15a1,16-31a2;0", "(16a,a)", true, 3},
		{"0-15a1,16-31a2;0", "(8a,(24a,a))", true, 5},
		{";9", "(8z,(24z,z))", true, 9},
		// Comparisons that are decided already cost what they cost.
		{"0-6a5,7-31c4;0", "(7(9a,b),c)", true, 14},
		{"0-6a5,7-31c4;0", "(7a,(5b,c))", true, 13},
		{"0-6a5,7-31c4;0", "(7(9b,a),c)", false, 14},
		// Segments without weight cost nothing, however deep they are.
		{"0-3a0,7b2;0", "(4a,(7z,(8b,z)))", true, 6},
		{"0-3a0,7b0;0", "(4a,(7z,(8b,z)))", true, 0},
		// Rest weighs on each gap, and only Low of a segment tells.
		{"5a0,9b0;99", "(5z,(6a,(9z,(10b,z))))", true, 792},
		{"0-9a7,10-31b1;0", "(5a,(10(7a,a),b))", true, 9},
		// More ranges than any switch has.
		{"0-31a5;0", "(1a,(2b,(3a,(4b,(5a,(6b,(7a,(8b,a))))))))", false, 5},
	}
	for _, want := range wants {
		s := read(t, want.text)
		if got := impl.TreeRight(s, want.tree); got != want.right {
			t.Errorf("TreeRight(%q, %q) = %v", want.text, want.tree, got)
		}
		if got := impl.TreeCost(s, want.tree); got != want.cost {
			t.Errorf("TreeCost(%q, %q) = %d, want %d", want.text, want.tree, got, want.cost)
		}
	}
}

// longTree returns a tree of so many bytes, or a text that is one but for its length.
func longTree(bytes int) string {
	ends := (bytes - 1) / 5
	wide := bytes - 5*ends - 1
	return strings.Repeat("(12a,", wide) + strings.Repeat("(1a,", ends-wide) + "b" + strings.Repeat(")", ends)
}

func TestLengthsOfTrees(t *testing.T) {
	for _, bytes := range []int{199, 200} {
		tree := longTree(bytes)
		if len(tree) != bytes || !impl.TreeValid(tree) || impl.TreeDepth(tree) != 39 || impl.CountNodes(tree) != 39 {
			t.Errorf("%d bytes: TreeValid(%q) = %v", bytes, tree, impl.TreeValid(tree))
		}
		if target, steps, ok := impl.RunTree(tree, impl.MaxKey); target != "b" || steps != 39 || !ok {
			t.Errorf("%d bytes: RunTree = %q, %d, %v", bytes, target, steps, ok)
		}
		if s, ok := impl.SwitchOf(tree); !ok || !impl.TreeRight(s, tree) {
			t.Errorf("%d bytes: SwitchOf = %v, %v", bytes, s, ok)
		}
	}
	for _, bytes := range []int{201, 202, 100000} {
		tree := longTree(bytes)
		if len(tree) != bytes {
			t.Errorf("%d bytes: %q", bytes, tree)
		}
		checkNoTree(t, tree)
	}
}

// noTrees returns texts that are no trees.
func noTrees() []string {
	return []string{
		"", "i", "y", "A", "Z", "`", "{", "0", "7", "(", ")", ",", "()", "(,)", "(a)", "(7)", "(7,)", " ", "\x00", "\xe1", "-",
		"aa", "ab", "az", "a,b", "a)", "(a", "(a,b)", "(7a)", "(7a,)", "(7,a)", "(7ab)", "(7a b)", "(7a,b", "(7a,b,", "7a,b", "7a,b)", "(7a,b))", "((7a,b)", "((7a,b))", "(7a,b)c", "a(7a,b)",
		"(7a,b,c)", "(7a,,b)", "(7,a,b)", "(7aa,b)", "(7a,bb)", "(7(4a,z),(8b,z)", "(7(4a,z),(8b,z)))", "(7(4a,z)(8b,z))", "(7(4a,z),(8b,z),)", "(7(4a,z),)", "(7(4a,z),8b,z)", "(7a,b)(8c,d)",
		// Numbers.
		"(0a,b)", "(32a,b)", "(33a,b)", "(99a,b)", "(100a,b)", "(310a,b)", "(00a,b)", "(01a,b)", "(07a,b)", "(031a,b)", "(7(04a,b),c)", "(-1a,b)", "(-7a,b)", "(+7a,b)", "(7.a,b)", "(1e1a,b)", "(0x7a,b)", "(1_0a,b)",
		"(4294967303a,b)", "(18446744073709551623a,b)", "(99999999999999999999999a,b)", "(\uff17a,b)", "(7 a,b)", "( 7a,b)", "(a7,b)",
		// Targets.
		"(7i,b)", "(7a,i)", "(7A,b)", "(7a,Z)", "(7y,z)", "(7-,b)", "(7a,-)", "(7\u0161,b)", "(7\xe1,b)", "(7a,\x00)",
		// Other brackets, and text around.
		"[7a,b]", "{7a,b}", "<7a,b>", "(7a;b)", "(7a.b)", "(7a:b)", " (7a,b)", "(7a,b) ", "(7a,b)\n", "(7a, b)", "(7a ,b)", "(7a,b )", "\x00(7a,b)",
		// Long ones.
		strings.Repeat("a", 200), strings.Repeat("(", 200), strings.Repeat("(", 1000000), strings.Repeat("(1", 100), strings.Repeat("(1", 500000), strings.Repeat("(1a,", 50), strings.Repeat("(1a,", 250000),
		strings.Repeat(")", 1000000), "(" + strings.Repeat("1", 190) + "a,b)", "(" + strings.Repeat("0", 190) + "1a,b)", "a" + strings.Repeat(" ", 1000000),
	}
}

// checkNoTree reports a text that is no tree, but is taken for one.
func checkNoTree(t *testing.T, tree string) {
	t.Helper()
	if impl.TreeValid(tree) {
		t.Errorf("TreeValid(%.60q) = true", tree)
	}
	for _, key := range []int{math.MinInt, -1, 0, 7, 31, 32} {
		if target, steps, ok := impl.RunTree(tree, key); target != "" || steps != 0 || ok {
			t.Errorf("RunTree(%.60q, %d) = %q, %d, %v", tree, key, target, steps, ok)
		}
	}
	if depth, nodes := impl.TreeDepth(tree), impl.CountNodes(tree); depth != -1 || nodes != -1 {
		t.Errorf("TreeDepth(%.60q) = %d, CountNodes = %d", tree, depth, nodes)
	}
	if s, ok := impl.SwitchOf(tree); len(s.Cases) != 0 || s.Rest != 0 || ok {
		t.Errorf("SwitchOf(%.60q) = %v, %v", tree, s, ok)
	}
	for _, s := range validSwitches() {
		if impl.TreeRight(s, tree) || impl.TreeCost(s, tree) != -1 {
			t.Errorf("TreeRight(%v, %.60q) = %v, TreeCost = %d", s, tree, impl.TreeRight(s, tree), impl.TreeCost(s, tree))
		}
	}
	for name, s := range wrongSwitches() {
		checkNoPair(t, name, s, tree)
	}
}

// checkNoPair reports a switch and a tree, not both valid, that are held against each other.
func checkNoPair(t *testing.T, name string, s impl.Switch, tree string) {
	t.Helper()
	if impl.TreeRight(s, tree) || impl.TreeCost(s, tree) != -1 {
		t.Errorf("%s: TreeRight(%.60q) = %v, TreeCost = %d", name, tree, impl.TreeRight(s, tree), impl.TreeCost(s, tree))
	}
}

func TestTextsThatAreNoTrees(t *testing.T) {
	for _, tree := range noTrees() {
		checkNoTree(t, tree)
	}
}

// inside matches a comparison of two targets.
var inside = regexp.MustCompile(`\(([1-9]|[12][0-9]|3[01])[a-hz],[a-hz]\)`)

// isTreeByHand reports whether a text is a tree: then taking comparisons of two targets for targets leaves one.
func isTreeByHand(text string) bool {
	if len(text) > impl.MaxTree {
		return false
	}
	for {
		shorter := inside.ReplaceAllLiteralString(text, "a")
		if shorter == text {
			return len(text) == 1 && strings.Contains("abcdefghz", text)
		}
		text = shorter
	}
}

func TestTreesWithOneByteChanged(t *testing.T) {
	var all []byte
	for b := range 256 {
		all = append(all, byte(b))
	}
	for _, tree := range []string{"a", "(1a,b)", "(20(13a,z),(30b,z))", "(4(3(2a,b),c),(11d,e))"} {
		checkChanged(t, tree, all)
	}
	for _, tree := range []string{longTree(impl.MaxTree - 1), longTree(impl.MaxTree)} {
		checkChanged(t, tree, []byte("0134(,)az "))
	}
}

// checkChanged holds texts that differ from a tree in one byte, or are shorter, against what is a tree.
func checkChanged(t *testing.T, tree string, bytes []byte) {
	t.Helper()
	valid := 0
	check := func(text string) {
		want := isTreeByHand(text)
		if got := impl.TreeValid(text); got != want {
			t.Fatalf("TreeValid(%q) = %v", text, got)
		}
		if want {
			valid++
		}
	}
	for i := range len(tree) {
		check(tree[:i])
		check(tree[:i] + tree[i+1:])
		for _, b := range bytes {
			check(tree[:i] + string([]byte{b}) + tree[i:])
			check(tree[:i] + string([]byte{b}) + tree[i+1:])
		}
	}
	if valid == 0 {
		t.Errorf("no text like %q is a tree", tree)
	}
}

// TestShortTexts holds all short texts of some bytes against what is a tree.
func TestShortTexts(t *testing.T) {
	texts := []string{""}
	for range 6 {
		var longer []string
		for _, text := range texts {
			for _, b := range "(13az,)" {
				longer = append(longer, text+string(b))
			}
		}
		for _, text := range longer {
			if got := impl.TreeValid(text); got != isTreeByHand(text) {
				t.Fatalf("TreeValid(%q) = %v", text, got)
			}
		}
		texts = longer
	}
}

func TestEveryNumberThatIsCompared(t *testing.T) {
	for number := -2; number < 400; number++ {
		tree := "(" + strconv.Itoa(number) + "a,b)"
		valid := 1 <= number && number <= impl.MaxKey
		if impl.TreeValid(tree) != valid {
			t.Errorf("TreeValid(%q) = %v", tree, !valid)
		}
		if impl.TreeValid("(0" + tree[1:]) {
			t.Errorf("TreeValid(%q) = true", "(0"+tree[1:])
		}
	}
	for b := range 256 {
		target := string([]byte{byte(b)})
		want := strings.Contains("abcdefghz", target)
		for _, tree := range []string{target, "(7" + target + ",b)", "(7a," + target + ")"} {
			if got := impl.TreeValid(tree); got != want {
				t.Errorf("TreeValid(%q) = %v", tree, got)
			}
		}
	}
}

func TestTreesOfNumbersThatAreNoKeys(t *testing.T) {
	for _, tree := range []string{"a", "z", "(7(4a,z),(8b,z))", "(31a,b)"} {
		for _, key := range []int{math.MinInt, -32, -1, 32, 33, 256, 1 << 32, math.MaxInt} {
			if target, steps, ok := impl.RunTree(tree, key); target != "" || steps != 0 || ok {
				t.Errorf("RunTree(%q, %d) = %q, %d, %v", tree, key, target, steps, ok)
			}
		}
	}
}

func TestNoTreesOfSwitchesThatAreNotValid(t *testing.T) {
	for name, s := range wrongSwitches() {
		if got, ok := impl.EvenTree(s); got != "" || ok {
			t.Errorf("%s: EvenTree = %q, %v", name, got, ok)
		}
		if got, ok := impl.HeavyTree(s); got != "" || ok {
			t.Errorf("%s: HeavyTree = %q, %v", name, got, ok)
		}
		for _, tree := range []string{"z", "a", "(2z,(6a,z))", "(7(4a,z),(8b,z))"} {
			checkNoPair(t, name, s, tree)
		}
	}
}

// useTrees calls every function of the chapter that takes a switch.
func useTrees(s impl.Switch) {
	impl.TreeRight(s, "(7(4a,z),(8b,z))")
	impl.TreeCost(s, "(7(4a,z),(8b,z))")
	impl.EvenTree(s)
	impl.HeavyTree(s)
}

func TestTreesLeaveArgumentsAsTheyAre(t *testing.T) {
	for _, text := range []string{"0-3a5,7b2;1", "0-3a5,4a2,9b1;1", "0-15a1,16-31a2;0", ";7"} {
		checkStays(t, read(t, text), useTrees)
	}
}

func TestSwitchesOfTreesShareNoMemory(t *testing.T) {
	const tree = "(7(4a,z),(8b,(20z,c)))"
	one, _ := impl.SwitchOf(tree)
	two, _ := impl.SwitchOf(tree)
	mark := impl.Case{Low: 9, High: 9, Target: "g", Weight: 9}
	before := slices.Clone(two.Cases[:cap(two.Cases)])
	fill(one.Cases, mark)
	if !slices.Equal(two.Cases[:cap(two.Cases)], before) {
		t.Errorf("a result has become %v, was %v", two.Cases[:cap(two.Cases)], before)
	}
	if again, ok := impl.SwitchOf(tree); impl.FormatSwitch(again) != "0-3a0,7b0,20-31c0;0" || !ok {
		t.Errorf("SwitchOf keeps %v, %v", again, ok)
	}
}
