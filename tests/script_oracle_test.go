package tests

import (
	"math/big"
	"regexp"
	"slices"
	"strconv"
	"strings"
	"testing"
	"unicode/utf8"

	"loop.example/g00043/impl"
)

// The oracle of scripts: quantities are fractions without an end, whose texts are held against a pattern; a plan's links are counted node by node; a script is read by a pattern a line, and each beginning of it by itself.

const (
	maxScript = impl.MaxScript
	maxNodes  = impl.MaxNodes
)

const (
	nano  = -9
	micro = "\u00b5"
	mu    = "\u03bc"
)

func ten(power int) *big.Rat {
	size := new(big.Int).Exp(big.NewInt(10), big.NewInt(int64(max(power, -power))), nil)
	if power < 0 {
		return new(big.Rat).SetFrac(big.NewInt(1), size)
	}
	return new(big.Rat).SetInt(size)
}

func ratOf(num, pow int) *big.Rat {
	return new(big.Rat).Mul(new(big.Rat).SetInt64(int64(num)), ten(pow))
}

func valueOf(q impl.Qty) *big.Rat { return ratOf(q.Num, q.Pow) }

// qtyOfValue searches the one power of ten with which the value is a whole number that does not end with a nought.
func qtyOfValue(value *big.Rat, volt, sec int) (impl.Qty, bool) {
	if volt < -9 || volt > 9 || sec < -9 || sec > 9 {
		return impl.Qty{}, false
	}
	if value.Sign() == 0 {
		return impl.Qty{Volt: volt, Sec: sec}, true
	}
	for pow := -30; pow <= 30; pow++ {
		num := new(big.Rat).Mul(value, ten(-pow))
		last := new(big.Rat).Mul(num, ten(-1))
		if num.IsInt() && !last.IsInt() && num.Num().CmpAbs(big.NewInt(1000000000)) <= 0 {
			return impl.Qty{Num: int(num.Num().Int64()), Pow: pow, Volt: volt, Sec: sec}, true
		}
	}
	return impl.Qty{}, false
}

func qtyIsRight(q impl.Qty) bool {
	if q.Pow < -30 || q.Pow > 30 || q.Num < -1000000000 || q.Num > 1000000000 {
		return false
	}
	told, ok := qtyOfValue(valueOf(q), q.Volt, q.Sec)
	return ok && told == q
}

const unitPower = `(-[1-9]|[2-9]|)`

var qtyPattern = regexp.MustCompile(`^(-?(?:0|[1-9][0-9]*)(?:\.[0-9]+)?)(?:([n` + micro + `mkMG]?)(V|s|Hz)| V` + unitPower + `| s` + unitPower + `| V` + unitPower + `\*s` + unitPower + `|)$`)

func unitNumber(text string) int {
	if text == "" {
		return 1
	}
	n, _ := strconv.Atoi(text)
	return n
}

func letterOf(text string) int {
	return map[string]int{"": 0, "n": nano, micro: -6, "m": -3, "k": 3, "M": 6, "G": 9}[text]
}

// readQtySlow tells the units by which part of the pattern is there.
func readQtySlow(text string) (impl.Qty, bool) {
	parts := qtyPattern.FindStringSubmatchIndex(text)
	if parts == nil {
		return impl.Qty{}, false
	}
	part := func(at int) (string, bool) {
		if parts[2*at] < 0 {
			return "", false
		}
		return text[parts[2*at]:parts[2*at+1]], true
	}
	figure, _ := part(1)
	if len(strings.Trim(figure, "-"))-strings.Count(figure, ".") > 9 {
		return impl.Qty{}, false
	}
	value, _ := new(big.Rat).SetString(figure)
	volt, sec := 0, 0
	switch unit, _ := part(3); unit {
	case "V":
		volt = 1
	case "s":
		sec = 1
	case "Hz":
		sec = -1
	}
	letter, _ := part(2)
	value.Mul(value, ten(letterOf(letter)))
	for _, at := range []int{4, 6} {
		if power, ok := part(at); ok {
			volt = unitNumber(power)
		}
	}
	for _, at := range []int{5, 7} {
		if power, ok := part(at); ok {
			sec = unitNumber(power)
		}
	}
	return qtyOfValue(value, volt, sec)
}

// showQtySlow writes the fraction with as many digits behind the point as its power of ten is below 0.
func showQtySlow(q impl.Qty) string {
	if !qtyIsRight(q) {
		return ""
	}
	text := valueOf(q).FloatString(max(-q.Pow, 0))
	digits := 0
	for _, r := range text {
		if r >= '0' && r <= '9' {
			digits++
		}
	}
	if digits > 9 {
		return ""
	}
	units := []string{}
	for at, power := range []int{q.Volt, q.Sec} {
		if power == 1 {
			units = append(units, []string{"V", "s"}[at])
		} else if power != 0 {
			units = append(units, []string{"V", "s"}[at]+strconv.Itoa(power))
		}
	}
	return strings.TrimSuffix(text+" "+strings.Join(units, "*"), " ")
}

func addQtySlow(a, b impl.Qty) (impl.Qty, bool) {
	apart := max(a.Pow, b.Pow) - min(a.Pow, b.Pow)
	if !qtyIsRight(a) || !qtyIsRight(b) || a.Volt != b.Volt || a.Sec != b.Sec || a.Num != 0 && b.Num != 0 && apart > 9 {
		return impl.Qty{}, false
	}
	return qtyOfValue(new(big.Rat).Add(valueOf(a), valueOf(b)), a.Volt, a.Sec)
}

func mulQtySlow(a, b impl.Qty) (impl.Qty, bool) {
	if !qtyIsRight(a) || !qtyIsRight(b) {
		return impl.Qty{}, false
	}
	return qtyOfValue(new(big.Rat).Mul(valueOf(a), valueOf(b)), a.Volt+b.Volt, a.Sec+b.Sec)
}

func letterSlow(r rune) bool {
	if r == 215 || r == 247 || r == 930 {
		return false
	}
	for _, ends := range [][2]rune{{65, 90}, {97, 122}, {192, 591}, {913, 969}} {
		if ends[0] <= r && r <= ends[1] {
			return true
		}
	}
	return false
}

func nameSlow(s string) bool {
	runes := []rune(s)
	if !utf8.ValidString(s) || len(runes) < 1 || len(runes) > 12 || !letterSlow(runes[0]) {
		return false
	}
	for _, r := range runes {
		if !letterSlow(r) && !strings.ContainsRune("0123456789_", r) {
			return false
		}
	}
	return true
}

// kindWords has each kind at its own place, none at 0.
func kindWords() []string {
	return []string{"", "in", "out", "gain", "add", "delay", "up", "down", "fold"}
}

func doorsSlow(kind int) int {
	switch kind {
	case impl.NodeIn:
		return 0
	case impl.NodeAdd:
		return 2
	}
	return 1
}

// endsOfN are the least and the greatest N of a kind.
func endsOfN(kind int) (int, int) {
	switch kind {
	case impl.NodeIn, impl.NodeOut, impl.NodeAdd:
		return 0, 0
	case impl.NodeGain:
		return -1000, 1000
	}
	return 1, 64
}

func nodeSlow(n impl.Node) bool {
	if n.Kind < 1 || n.Kind > 8 || !nameSlow(n.Name) {
		return false
	}
	least, most := endsOfN(n.Kind)
	return n.N >= least && n.N <= most
}

// mayGoOn asks whether a right plan may come of this one; lacking is how many links it still needs.
func mayGoOn(p impl.Plan) (lacking int, ok bool) {
	names := map[string]int{}
	if len(p.Nodes) > maxNodes || len(p.Links) > maxWires {
		return 0, false
	}
	for _, n := range p.Nodes {
		names[n.Name]++
		if !nodeSlow(n) || names[n.Name] > 1 {
			return 0, false
		}
	}
	into := map[int]int{}
	for _, l := range p.Links {
		if l.From < 0 || l.From >= len(p.Nodes) || l.To < 0 || l.To >= len(p.Nodes) || p.Nodes[l.From].Kind == impl.NodeOut {
			return 0, false
		}
		into[l.To]++
	}
	for at, n := range p.Nodes {
		if into[at] > doorsSlow(n.Kind) {
			return 0, false
		}
		lacking += doorsSlow(n.Kind) - into[at]
	}
	return lacking, true
}

func planIsRight(p impl.Plan) bool {
	lacking, ok := mayGoOn(p)
	return ok && lacking == 0 && len(p.Nodes) > 0
}

func showPlanSlow(p impl.Plan) string {
	if !planIsRight(p) {
		return ""
	}
	lines := []string{}
	for _, n := range p.Nodes {
		words := []string{"node", n.Name, kindWords()[n.Kind]}
		if least, most := endsOfN(n.Kind); least < most {
			words = append(words, strconv.Itoa(n.N))
		}
		lines = append(lines, strings.Join(words, " "))
	}
	for _, l := range p.Links {
		lines = append(lines, strings.Join([]string{"link", p.Nodes[l.From].Name, "->", p.Nodes[l.To].Name}, " "))
	}
	text := strings.Join(append(lines, ""), "\n")
	if len(text) > 3000 {
		return ""
	}
	return text
}

var (
	nodePattern = regexp.MustCompile(`^node ([^ ]+) (?:(in|out|add)|(gain|delay|up|down|fold) (0|-?[1-9][0-9]{0,3}))$`)
	linkPattern = regexp.MustCompile(`^link ([^ ]+) -> ([^ ]+)$`)
)

// withLine is the plan with what a line adds.
func withLine(p impl.Plan, line string) (impl.Plan, bool) {
	told := impl.Plan{Nodes: slices.Clone(p.Nodes), Links: slices.Clone(p.Links)}
	if line == "" || line[0] == '#' {
		return told, true
	}
	if parts := nodePattern.FindStringSubmatch(line); parts != nil {
		n, _ := strconv.Atoi(parts[4])
		told.Nodes = append(told.Nodes, impl.Node{Name: parts[1], Kind: slices.Index(kindWords(), parts[2]+parts[3]), N: n})
		return told, true
	}
	parts := linkPattern.FindStringSubmatch(line)
	if parts == nil {
		return impl.Plan{}, false
	}
	places := map[string]int{}
	for at, n := range p.Nodes {
		places[n.Name] = at + 1
	}
	told.Links = append(told.Links, impl.Link{From: places[parts[1]] - 1, To: places[parts[2]] - 1})
	return told, true
}

func parsePlanSlow(text string) (impl.Plan, int) {
	if len(text) > 3000 {
		return impl.Plan{}, -1
	}
	lines := strings.Split(text, "\n")
	last := lines[len(lines)-1]
	if last == "" {
		lines = lines[:len(lines)-1]
	}
	p := impl.Plan{}
	for at, line := range lines {
		next, ok := withLine(p, line)
		if ok {
			_, ok = mayGoOn(next)
		}
		if at == len(lines)-1 && last != "" && last[0] != '#' {
			ok = false
		}
		if !ok {
			return impl.Plan{}, at + 1
		}
		p = next
	}
	if !planIsRight(p) {
		return impl.Plan{}, len(lines) + 1
	}
	return p, 0
}

func wiringSlow(p impl.Plan) []impl.Wire {
	told := []impl.Wire{}
	for _, l := range p.Links {
		from, to := p.Nodes[l.From], p.Nodes[l.To]
		w := wired(l.From, l.To, 1, 1)
		if from.Kind == impl.NodeUp {
			w.Give = from.N
		}
		if from.Kind == impl.NodeDelay {
			w.Have = from.N
		}
		if slices.Contains([]int{impl.NodeDown, impl.NodeFold}, to.Kind) {
			w.Take = to.N
		}
		told = append(told, w)
	}
	return told
}

func samePlan(a, b impl.Plan) bool {
	return slices.Equal(a.Nodes, b.Nodes) && slices.Equal(a.Links, b.Links)
}

func holdQty(t *testing.T, what string, got impl.Qty, ok bool, want impl.Qty, wantOk bool) {
	t.Helper()
	if got != want || ok != wantOk {
		t.Errorf("%s is %v %v, not %v %v", what, got, ok, want, wantOk)
	}
}

func qtyIs(t *testing.T, q impl.Qty, want bool) {
	t.Helper()
	if got := impl.QtyOk(q); got != want {
		t.Errorf("QtyOk of %v is %v", q, got)
	}
}

func readHolds(t *testing.T, text string) {
	t.Helper()
	got, ok := impl.ReadQty(text)
	want, wantOk := readQtySlow(text)
	holdQty(t, "ReadQty of "+strconv.Quote(text), got, ok, want, wantOk)
}

// showHolds wants what is shown read again, too.
func showHolds(t *testing.T, q impl.Qty) {
	t.Helper()
	text := impl.ShowQty(q)
	if want := showQtySlow(q); text != want {
		t.Errorf("ShowQty of %v is %q, not %q", q, text, want)
	}
	if text != "" {
		back, ok := impl.ReadQty(text)
		holdQty(t, "ReadQty of what ShowQty told, "+text, back, ok, q, true)
	}
}

type twoQtys = func(a, b impl.Qty) (impl.Qty, bool)

// exchanged wants the same, whichever of the two stands ahead.
func exchanged(t *testing.T, what string, call twoQtys, a, b, want impl.Qty, wantOk bool) {
	t.Helper()
	got, ok := call(a, b)
	holdQty(t, what, got, ok, want, wantOk)
	got, ok = call(b, a)
	holdQty(t, what+" the other way round", got, ok, want, wantOk)
}

func addHolds(t *testing.T, a, b impl.Qty) {
	t.Helper()
	want, wantOk := addQtySlow(a, b)
	exchanged(t, "AddQty", impl.AddQty, a, b, want, wantOk)
}

func mulHolds(t *testing.T, a, b impl.Qty) {
	t.Helper()
	want, wantOk := mulQtySlow(a, b)
	exchanged(t, "MulQty", impl.MulQty, a, b, want, wantOk)
}

func nameIs(t *testing.T, s string, want bool) {
	t.Helper()
	if got := impl.NodeName(s); got != want {
		t.Errorf("NodeName of %q is %v", s, got)
	}
}

func planIs(t *testing.T, p impl.Plan, want bool) {
	t.Helper()
	if got := impl.PlanOk(p); got != want {
		t.Errorf("PlanOk of %v is %v", p, got)
	}
}

func holdPlan(t *testing.T, text string, got impl.Plan, code int, want impl.Plan, wantCode int) {
	t.Helper()
	if !samePlan(got, want) || code != wantCode {
		t.Errorf("ParsePlan of %q is %v with %d, not %v with %d", text, got, code, want, wantCode)
	}
}

func parseIs(t *testing.T, text string, want int) {
	t.Helper()
	plan, code := impl.ParsePlan(text)
	if code != want || code != 0 && !samePlan(plan, impl.Plan{}) {
		t.Errorf("ParsePlan of %q is %v with %d, not with %d", text, plan, code, want)
	}
}

func parseHolds(t *testing.T, text string) {
	t.Helper()
	plan, code := impl.ParsePlan(text)
	want, wantCode := parsePlanSlow(text)
	holdPlan(t, text, plan, code, want, wantCode)
}

// planHolds asks all that is told of a plan.
func planHolds(t *testing.T, p impl.Plan) {
	t.Helper()
	right := planIsRight(p)
	planIs(t, p, right)
	text := impl.ShowPlan(p)
	if want := showPlanSlow(p); text != want {
		t.Errorf("ShowPlan of %v is %q, not %q", p, text, want)
	}
	wires, ok := impl.Wiring(p)
	if !right {
		if ok || len(wires) != 0 {
			t.Errorf("Wiring of %v is not refused: %v %v", p, wires, ok)
		}
		return
	}
	if want := wiringSlow(p); !ok || !slices.Equal(wires, want) {
		t.Errorf("Wiring of %v is %v %v, not %v", p, wires, ok, want)
	}
	back, code := impl.ParsePlan(text)
	holdPlan(t, text, back, code, p, 0)
}

// qty is right: its Num has up to so many digits.
func (g *formSource) qty(digits int) impl.Qty {
	for {
		q := impl.Qty{Num: g.within(1000000000), Pow: g.within(30), Volt: g.within(9), Sec: g.within(9)}
		for range 9 - digits {
			q.Num /= 10
		}
		if qtyIsRight(q) {
			return q
		}
	}
}

// name is one of up to so many runes.
func (g *formSource) name(most int) string {
	first := []rune{'A', 'Z', 'a', 'z', 'q', 192, 214, 216, 246, 248, 591, 913, 929, 931, 969, 956}
	others := append([]rune{'0', '9', '_'}, first...)
	runes := []rune{first[g.below(len(first))]}
	for range g.below(most) {
		runes = append(runes, others[g.below(len(others))])
	}
	return string(runes)
}

// planNode has a name that no other of the plan has.
func (g *formSource) planNode(at, kind int) impl.Node {
	least, most := endsOfN(kind)
	return impl.Node{Name: g.name(9) + string(rune('a'+at)), Kind: kind, N: least + g.below(most-least+1)}
}

// plan links each door to a node that is no NodeOut: to any one, or in loops.
func (g *formSource) plan(count int) impl.Plan {
	p := impl.Plan{Nodes: []impl.Node{g.planNode(0, impl.NodeIn)}}
	for at := 1; at < count; at++ {
		p.Nodes = append(p.Nodes, g.planNode(at, 1+g.below(8)))
	}
	for at, n := range p.Nodes {
		for range doorsSlow(n.Kind) {
			from := g.below(count)
			for p.Nodes[from].Kind == impl.NodeOut {
				from = g.below(count)
			}
			p.Links = append(p.Links, impl.Link{From: from, To: at})
		}
	}
	for at := range p.Links {
		other := g.below(at + 1)
		p.Links[at], p.Links[other] = p.Links[other], p.Links[at]
	}
	return p
}

func manyPlans(seed uint64, call func(g *formSource, p impl.Plan)) {
	g := formSource(seed)
	for range 25 {
		for _, count := range []int{1, 2, 3, 5, 8, 13, maxNodes} {
			call(&g, g.plan(count))
		}
	}
}

// fewPlans have each kind.
func fewPlans() []impl.Plan {
	g := formSource(2003)
	plans := []impl.Plan{g.plan(1), g.plan(maxNodes)}
	for kind := range kindWords() {
		if kind == 0 {
			continue
		}
		p := impl.Plan{Nodes: []impl.Node{g.planNode(0, impl.NodeIn), g.planNode(1, kind), g.planNode(2, impl.NodeOut)}, Links: []impl.Link{{From: 0, To: 2}}}
		for range doorsSlow(kind) {
			p.Links = append(p.Links, impl.Link{From: 0, To: 1})
		}
		plans = append(plans, p)
	}
	return plans
}
