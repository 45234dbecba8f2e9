package impl

import (
	"cmp"
	"errors"
	"iter"
	"slices"
	"strconv"
	"strings"
)

// Limits of switches.
const (
	MaxKey    = 31
	MaxCases  = 8
	MaxWeight = 99
)

// restTarget is the target of all keys without a case.
const restTarget target = 'z'

// Why a text is no switch.
var (
	errNoTarget = errors.New("no target")
	errNoRest   = errors.New("no rest")
	errTooMany  = errors.New("too many cases")
	errLeftOver = errors.New("text left over")
)

// A Case leads keys of a range to a target, and tells how often they come.
type Case struct {
	Low    int
	High   int
	Target string
	Weight int
}

// A Switch has cases, and tells how often other keys come.
type Switch struct {
	Cases []Case
	Rest  int
}

// A target is the letter that keys are led to.
type target byte

// ofCase reports whether a case may have the target.
func (t target) ofCase() bool { return 'a' <= t && t <= 'h' }

// valid reports whether keys may be led to the target.
func (t target) valid() bool { return t.ofCase() || t == restTarget }

// text returns the target as a string of one byte.
func (t target) text() string { return string([]byte{byte(t)}) }

// valid reports whether a case may stand in a switch by itself.
func (c Case) valid() bool {
	_, left, err := readTarget(c.Target)
	return err == nil && left == "" && isKey(c.Low) && isKey(c.High) && c.Low <= c.High && isWeight(c.Weight)
}

// has reports whether a key is one of the case.
func (c Case) has(key int) bool { return c.Low <= key && key <= c.High }

// meets reports whether some key is in both cases.
func (c Case) meets(other Case) bool { return c.Low <= other.High && other.Low <= c.High }

// width returns how many keys the case has.
func (c Case) width() int { return c.High - c.Low + 1 }

// text returns what stands for the case in the text of a switch.
func (c Case) text() string {
	return rangeText(c.Low, c.High) + c.Target + strconv.Itoa(c.Weight)
}

// SwitchValid reports whether a switch is valid.
func SwitchValid(s Switch) bool {
	if len(s.Cases) > MaxCases || !isWeight(s.Rest) {
		return false
	}
	for _, c := range s.Cases {
		if !c.valid() {
			return false
		}
	}
	return ascending(s.Cases) && apart(s.Cases)
}

// FormatSwitch returns the text of a switch.
func FormatSwitch(s Switch) string {
	if !SwitchValid(s) {
		return ""
	}
	var texts []string
	for _, c := range s.Cases {
		texts = append(texts, c.text())
	}
	return strings.Join(texts, ",") + ";" + strconv.Itoa(s.Rest)
}

// ParseSwitch parses the text of a switch.
func ParseSwitch(text string) (Switch, bool) {
	s, err := readSwitch(text)
	// Formatting again refuses what reading lets pass: zeros in front, ranges
	// of one key written as two, and switches that are not valid.
	if err != nil || FormatSwitch(s) != text {
		return Switch{}, false
	}
	return s, true
}

// TargetOf returns the target of a key.
func TargetOf(s Switch, key int) (string, bool) {
	if !SwitchValid(s) || !isKey(key) {
		return "", false
	}
	if i := CaseOf(s, key); i >= 0 {
		return s.Cases[i].Target, true
	}
	return restTarget.text(), true
}

// CaseOf returns the index of the case of a key, or -1.
func CaseOf(s Switch, key int) int {
	if !SwitchValid(s) {
		return -1
	}
	return slices.IndexFunc(s.Cases, func(c Case) bool { return c.has(key) })
}

// TargetsOf returns all targets of a switch.
func TargetsOf(s Switch) (string, bool) {
	if !SwitchValid(s) {
		return "", false
	}
	var targets []byte
	for _, c := range s.Cases {
		targets = append(targets, c.Target...)
	}
	if CountKeys(s) < MaxKey+1 {
		targets = append(targets, byte(restTarget))
	}
	slices.Sort(targets)
	return string(slices.Compact(targets)), true
}

// CountKeys returns how many keys have a case.
func CountKeys(s Switch) int {
	if !SwitchValid(s) {
		return -1
	}
	var widths []int
	for _, c := range s.Cases {
		widths = append(widths, c.width())
	}
	return sum(widths...)
}

// TotalWeight returns all weights together.
func TotalWeight(s Switch) int {
	if !SwitchValid(s) {
		return -1
	}
	weights := []int{s.Rest}
	for _, c := range s.Cases {
		weights = append(weights, c.Weight)
	}
	return sum(weights...)
}

// isKey reports whether a number is a key.
func isKey(n int) bool { return 0 <= n && n <= MaxKey }

// isWeight reports whether a number is a weight.
func isWeight(n int) bool { return 0 <= n && n <= MaxWeight }

// rangeText returns two numbers with `-` between them, or one if they are the
// same.
func rangeText(first, last int) string {
	if first == last {
		return strconv.Itoa(first)
	}
	return strconv.Itoa(first) + "-" + strconv.Itoa(last)
}

// sum returns all numbers together.
func sum(numbers ...int) int {
	total := 0
	for _, n := range numbers {
		total += n
	}
	return total
}

// ascending reports whether sorting leaves cases as they are.
func ascending(cases []Case) bool {
	sorted := slices.Clone(cases)
	slices.SortStableFunc(sorted, func(a, b Case) int { return cmp.Compare(a.Low, b.Low) })
	for i, c := range sorted {
		if c != cases[i] {
			return false
		}
	}
	return true
}

// apart reports whether no key is in two cases.
func apart(cases []Case) bool {
	for i, c := range cases {
		if slices.ContainsFunc(cases[i+1:], c.meets) {
			return false
		}
	}
	return true
}

// readSwitch reads a switch, which need not be valid.
func readSwitch(text string) (Switch, error) {
	front, back, found := strings.Cut(text, ";")
	if !found {
		return Switch{}, errNoRest
	}
	var s Switch
	for part := range partsOf(front) {
		// A long text is not worth reading on.
		if len(s.Cases) == MaxCases {
			return Switch{}, errTooMany
		}
		c, err := readCase(part)
		if err != nil {
			return Switch{}, err
		}
		s.Cases = append(s.Cases, c)
	}
	rest, err := readLast(back)
	s.Rest = rest
	return s, err
}

// partsOf yields what stands between commas. Unlike a split, it yields nothing
// for the empty text, which has no cases.
func partsOf(text string) iter.Seq[string] {
	return func(yield func(string) bool) {
		left, more := text, text != ""
		for more {
			var part string
			part, left, more = strings.Cut(left, ",")
			if !yield(part) {
				return
			}
		}
	}
}

// readCase reads a case, which need not be valid.
func readCase(text string) (Case, error) {
	low, left, err := readNumber(text)
	if err != nil {
		return Case{}, err
	}
	high := low
	if behind, found := strings.CutPrefix(left, "-"); found {
		high, left, err = readNumber(behind)
		if err != nil {
			return Case{}, err
		}
	}
	t, left, err := readTarget(left)
	if err != nil {
		return Case{}, err
	}
	weight, err := readLast(left)
	return Case{Low: low, High: high, Target: t.text(), Weight: weight}, err
}

// readTarget reads the target of a case, and returns the text behind it.
func readTarget(text string) (target, string, error) {
	if text == "" || !target(text[0]).ofCase() {
		return 0, "", errNoTarget
	}
	return target(text[0]), text[1:], nil
}

// readNumber reads digits, and returns the text behind them.
func readNumber(text string) (int, string, error) {
	end := 0
	for end < len(text) && '0' <= text[end] && text[end] <= '9' {
		end++
	}
	n, err := strconv.Atoi(text[:end])
	return n, text[end:], err
}

// readLast reads a number that nothing follows.
func readLast(text string) (int, error) {
	n, left, err := readNumber(text)
	if err == nil && left != "" {
		err = errLeftOver
	}
	return n, err
}
