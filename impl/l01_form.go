package impl

import (
	"cmp"
	"math/bits"
)

const (
	Half   = 1
	Single = 2
	Double = 3
)

const (
	NearEven = iota + 1
	NearAway
	ToZero
	ToUp
	ToDown
)

const (
	FlagInexact = 1 << iota
	FlagUnder
	FlagOver
	FlagByZero
	FlagBad
)

const (
	KindZero   = 0
	KindFinite = 1
	KindInf    = 2
	KindNan    = 3
	KindNone   = 4
)

const MaxExp = 5000

type Num struct {
	Kind int
	Neg  bool
	Exp  int
	Man  uint64
}

// A shape is what the document calls w, p and E of a form.
type shape struct {
	width     int
	precision int
	top       int
}

var shapes = [...]shape{
	Half:   {width: 16, precision: 11, top: 15},
	Single: {width: 32, precision: 24, top: 127},
	Double: {width: 64, precision: 53, top: 1023},
}

func isForm(form int) bool { return form >= Half && form <= Double }

func isMode(mode int) bool { return mode >= NearEven && mode <= ToDown }

func isBits(form int, x uint64) bool { return isForm(form) && x>>shapes[form].width == 0 }

func (s shape) signBit() uint64 { return 1 << (s.width - 1) }

func (s shape) hiddenBit() uint64 { return 1 << (s.precision - 1) }

func (s shape) quietBit() uint64 { return 1 << (s.precision - 2) }

func (s shape) infinity() uint64 { return uint64(2*s.top+1) << (s.precision - 1) }

func (s shape) plainNan() uint64 { return s.infinity() | s.quietBit() }

func (s shape) isNan(x uint64) bool { return x&^s.signBit() > s.infinity() }

func (s shape) isSignalling(x uint64) bool { return s.isNan(x) && x&s.quietBit() == 0 }

// leastUnit is the exponent of the least number above 0.
func (s shape) leastUnit() int { return 2 - s.top - s.precision }

func (s shape) signed(neg bool, size uint64) uint64 {
	if neg {
		return size | s.signBit()
	}
	return size
}

func Unpack(form int, bits uint64) Num {
	if !isBits(form, bits) {
		return Num{Kind: KindNone}
	}
	s := shapes[form]
	neg := bits&s.signBit() != 0
	size := bits &^ s.signBit()
	switch {
	case size == 0:
		return Num{Kind: KindZero, Neg: neg}
	case size == s.infinity():
		return Num{Kind: KindInf, Neg: neg}
	case size > s.infinity():
		return Num{Kind: KindNan}
	}
	return s.unpackFinite(neg, size)
}

func (s shape) unpackFinite(neg bool, size uint64) Num {
	steps := int(size >> (s.precision - 1))
	man := size & (s.hiddenBit() - 1)
	if steps > 0 {
		// The exponents 0 and 1 have the same unit; they differ in the hidden bit alone.
		man |= s.hiddenBit()
		steps--
	}
	zeros := bits.TrailingZeros64(man)
	return Num{Kind: KindFinite, Neg: neg, Exp: s.leastUnit() + steps + zeros, Man: man >> zeros}
}

func Pack(form int, mode int, n Num) (uint64, int) {
	if !isForm(form) || !isMode(mode) {
		return 0, 0
	}
	if n.Kind == KindFinite && (n.Man == 0 || n.Exp < -MaxExp || n.Exp > MaxExp) {
		return 0, 0
	}
	return packNum(form, mode, n)
}

// packNum is Pack without its limits, which results of operations need not keep.
func packNum(form int, mode int, n Num) (uint64, int) {
	s := shapes[form]
	switch n.Kind {
	case KindZero:
		return s.signed(n.Neg, 0), 0
	case KindFinite:
		return s.packFinite(mode, n)
	case KindInf:
		return s.signed(n.Neg, s.infinity()), 0
	case KindNan:
		return s.plainNan(), 0
	}
	return 0, 0
}

func (s shape) packFinite(mode int, n Num) (uint64, int) {
	high := n.Exp + bits.Len64(n.Man) - 1
	unit := max(high-s.precision+1, s.leastUnit())
	kept, exact := roundTo(mode, n, unit)
	steps := unit - s.leastUnit()
	if steps > 2*s.top {
		return s.overflow(mode, n.Neg)
	}
	// The hidden bit, and a carry behind rounding, add themselves to the exponent.
	size := uint64(steps)<<(s.precision-1) + kept
	switch {
	case size >= s.infinity():
		return s.overflow(mode, n.Neg)
	case exact:
		return s.signed(n.Neg, size), 0
	case high < 1-s.top:
		return s.signed(n.Neg, size), FlagInexact + FlagUnder
	}
	return s.signed(n.Neg, size), FlagInexact
}

func (s shape) overflow(mode int, neg bool) (uint64, int) {
	size := s.infinity()
	if mode == ToZero || mode == ToUp && neg || mode == ToDown && !neg {
		size--
	}
	return s.signed(neg, size), FlagOver + FlagInexact
}

// roundTo tells the size of a finite n in units of 2^unit, and whether that is n.
func roundTo(mode int, n Num, unit int) (uint64, bool) {
	drop := unit - n.Exp
	if drop <= 0 {
		return n.Man << -drop, true
	}
	kept := n.Man >> drop
	lost := n.Man - kept<<drop
	if lost == 0 {
		return kept, true
	}
	if roundsUp(mode, n.Neg, kept&1 == 1, againstHalf(lost, drop)) {
		kept++
	}
	return kept, false
}

// againstHalf holds lost against a half of 2^drop.
func againstHalf(lost uint64, drop int) int {
	if drop > 64 {
		return -1
	}
	return cmp.Compare(lost, uint64(1)<<(drop-1))
}

func roundsUp(mode int, neg bool, odd bool, half int) bool {
	switch mode {
	case NearEven:
		return half > 0 || half == 0 && odd
	case NearAway:
		return half >= 0
	case ToUp:
		return !neg
	case ToDown:
		return neg
	}
	return false
}

// A wide is a number in the making, as exact as sums of products need it: low counts the 2^64ths of Man's unit.
type wide struct {
	Num
	low uint64
}

func wideNan() wide { return wide{Num: Num{Kind: KindNan}} }

func wideOf(kind int, neg bool) wide { return wide{Num: Num{Kind: kind, Neg: neg}} }

// jamBit sets the lowest bit for what was cut off: behind some bits more than a form has, it rounds like what it stands for.
func jamBit(man uint64, rest uint64) uint64 {
	if rest != 0 {
		return man | 1
	}
	return man
}

// lifted has Man's highest bit set.
func (x wide) lifted() wide {
	if x.Man == 0 {
		x.Man, x.low, x.Exp = x.low, 0, x.Exp-64
	}
	by := bits.LeadingZeros64(x.Man)
	x.Man = x.Man<<by | x.low>>(64-by)
	x.low <<= by
	x.Exp -= by
	return x
}

// sunk has an Exp that is greater by that much; what falls out is jammed.
func (x wide) sunk(by int) wide {
	x.Exp += by
	lost := uint64(0)
	// By 127 as by more, the lowest bit alone is left.
	by = min(by, 127)
	if by >= 64 {
		lost, x.low, x.Man = x.low, x.Man, 0
		by -= 64
	}
	lost |= x.low << (64 - by)
	x.low = jamBit(x.low>>by|x.Man<<(64-by), lost)
	x.Man >>= by
	return x
}

func (x wide) less(y wide) bool { return x.Man < y.Man || x.Man == y.Man && x.low < y.low }

func (x wide) narrow() Num {
	if x.Kind != KindFinite {
		return x.Num
	}
	x = x.lifted()
	x.Man = jamBit(x.Man, x.low)
	return x.Num
}

func mulNums(a Num, b Num) wide {
	neg := a.Neg != b.Neg
	infinite := a.Kind == KindInf || b.Kind == KindInf
	zero := a.Kind == KindZero || b.Kind == KindZero
	switch {
	case infinite && zero:
		return wideNan()
	case infinite:
		return wideOf(KindInf, neg)
	case zero:
		return wideOf(KindZero, neg)
	}
	hi, lo := bits.Mul64(a.Man, b.Man)
	return wide{Num: Num{Kind: KindFinite, Neg: neg, Exp: a.Exp + b.Exp + 64, Man: hi}, low: lo}
}

func addWide(mode int, x wide, y wide) wide {
	switch {
	case x.Kind == KindNan:
		return x
	case x.Kind == KindInf && y.Kind == KindInf && x.Neg != y.Neg:
		return wideNan()
	case x.Kind == KindInf:
		return x
	case y.Kind == KindInf:
		return y
	case x.Kind == KindZero && y.Kind == KindZero && x.Neg != y.Neg:
		return cancelled(mode)
	case x.Kind == KindZero:
		return y
	case y.Kind == KindZero:
		return x
	}
	return addFinite(mode, x, y)
}

func cancelled(mode int) wide { return wideOf(KindZero, mode == ToDown) }

func addFinite(mode int, x wide, y wide) wide {
	// One free bit is room for the carry. It costs none: a product has no more than 106.
	x, y = x.lifted().sunk(1), y.lifted().sunk(1)
	if x.Exp < y.Exp {
		x, y = y, x
	}
	y = y.sunk(x.Exp - y.Exp)
	if x.Neg != y.Neg {
		return subFinite(mode, x, y)
	}
	low, carry := bits.Add64(x.low, y.low, 0)
	x.low, x.Man = low, x.Man+y.Man+carry
	return x
}

// subFinite takes the lesser from the greater, which gives the sign; both have the same Exp.
func subFinite(mode int, x wide, y wide) wide {
	if x.less(y) {
		x, y = y, x
	}
	low, borrow := bits.Sub64(x.low, y.low, 0)
	x.low, x.Man = low, x.Man-y.Man-borrow
	if x.Man == 0 && x.low == 0 {
		return cancelled(mode)
	}
	return x
}

func divNums(a Num, b Num) Num {
	neg := a.Neg != b.Neg
	switch {
	case a.Kind == b.Kind && a.Kind != KindFinite:
		return Num{Kind: KindNan}
	case a.Kind == KindInf || b.Kind == KindZero:
		return Num{Kind: KindInf, Neg: neg}
	case a.Kind == KindZero || b.Kind == KindInf:
		return Num{Kind: KindZero, Neg: neg}
	}
	// The dividend stays below the divisor, so that the quotient's 63 or 64 bits are one word.
	x, y := wide{Num: a}.lifted().sunk(1), wide{Num: b}.lifted()
	man, rest := bits.Div64(x.Man, 0, y.Man)
	return Num{Kind: KindFinite, Neg: neg, Exp: x.Exp - y.Exp - 64, Man: jamBit(man, rest)}
}

func rootNum(a Num) Num {
	switch {
	case a.Kind == KindZero:
		return a
	case a.Neg:
		return Num{Kind: KindNan}
	case a.Kind == KindInf:
		return a
	}
	x := wide{Num: a}.lifted()
	// An even exponent can be halved.
	x = x.sunk(x.Exp & 1)
	man, rest := wordRoot(x.Man)
	return Num{Kind: KindFinite, Exp: x.Exp/2 - (rootBits - 32), Man: jamBit(man, rest)}
}

// rootBits leaves room for the rest in one word, and some bits more than the greatest precision.
const rootBits = 58

// wordRoot tells the root of x in units of 2^(32-rootBits), cut off, and what is left of x.
func wordRoot(x uint64) (uint64, uint64) {
	man, rest := uint64(0), uint64(0)
	for range rootBits {
		rest = rest<<2 | x>>62
		x <<= 2
		man <<= 1
		if next := man<<1 | 1; rest >= next {
			rest -= next
			man |= 1
		}
	}
	return man, rest
}

// earlyAnswer gives the answers that no size plays a part in: to wrong arguments, and to NaNs.
func earlyAnswer(form int, mode int, list ...uint64) (uint64, int, bool) {
	if !isForm(form) || !isMode(mode) {
		return 0, 0, true
	}
	s := shapes[form]
	nan, flags := false, 0
	for _, x := range list {
		if !isBits(form, x) {
			return 0, 0, true
		}
		nan = nan || s.isNan(x)
		if s.isSignalling(x) {
			flags = FlagBad
		}
	}
	if nan {
		return s.plainNan(), flags, true
	}
	return 0, 0, false
}

// settleNum packs a result of arguments that are no NaNs: where it is one, the operation was bad.
func settleNum(form int, mode int, n Num) (uint64, int) {
	x, flags := packNum(form, mode, n)
	if n.Kind == KindNan {
		return x, FlagBad
	}
	return x, flags
}

func Add(form int, mode int, a uint64, b uint64) (uint64, int) {
	if x, flags, done := earlyAnswer(form, mode, a, b); done {
		return x, flags
	}
	x, y := wide{Num: Unpack(form, a)}, wide{Num: Unpack(form, b)}
	return settleNum(form, mode, addWide(mode, x, y).narrow())
}

func Sub(form int, mode int, a uint64, b uint64) (uint64, int) {
	if x, flags, done := earlyAnswer(form, mode, a, b); done {
		return x, flags
	}
	return Add(form, mode, a, b^shapes[form].signBit())
}

func Mul(form int, mode int, a uint64, b uint64) (uint64, int) {
	if x, flags, done := earlyAnswer(form, mode, a, b); done {
		return x, flags
	}
	return settleNum(form, mode, mulNums(Unpack(form, a), Unpack(form, b)).narrow())
}

func Div(form int, mode int, a uint64, b uint64) (uint64, int) {
	if x, flags, done := earlyAnswer(form, mode, a, b); done {
		return x, flags
	}
	x, y := Unpack(form, a), Unpack(form, b)
	result, flags := settleNum(form, mode, divNums(x, y))
	if x.Kind == KindFinite && y.Kind == KindZero {
		flags += FlagByZero
	}
	return result, flags
}

func Fma(form int, mode int, a uint64, b uint64, c uint64) (uint64, int) {
	if x, flags, done := earlyAnswer(form, mode, a, b, c); done {
		return x, flags
	}
	x, y := mulNums(Unpack(form, a), Unpack(form, b)), wide{Num: Unpack(form, c)}
	return settleNum(form, mode, addWide(mode, x, y).narrow())
}

func Sqrt(form int, mode int, a uint64) (uint64, int) {
	if x, flags, done := earlyAnswer(form, mode, a); done {
		return x, flags
	}
	return settleNum(form, mode, rootNum(Unpack(form, a)))
}

func Compare(form int, a uint64, b uint64) int {
	if !isBits(form, a) || !isBits(form, b) {
		return 2
	}
	s := shapes[form]
	if s.isNan(a) || s.isNan(b) {
		return 2
	}
	return cmp.Compare(s.rank(a, 0), s.rank(b, 0))
}

func Order(form int, a uint64, b uint64) int {
	if !isBits(form, a) || !isBits(form, b) {
		return 2
	}
	s := shapes[form]
	return cmp.Compare(s.rank(a, 1), s.rank(b, 1))
}

// rank is a number that grows with what the bits are; those with the sign stand by that much lower.
func (s shape) rank(x uint64, lower int) int {
	if x&s.signBit() != 0 {
		return -int(x&^s.signBit()) - lower
	}
	return int(x)
}

func Next(form int, a uint64) uint64 {
	if !isBits(form, a) {
		return 0
	}
	s := shapes[form]
	switch {
	case s.isNan(a):
		return s.plainNan()
	case a == s.infinity():
		return a
	case a == s.signBit():
		return 1
	case a > s.signBit():
		return a - 1
	}
	return a + 1
}

func Convert(from int, to int, mode int, a uint64) (uint64, int) {
	if !isForm(to) || !isMode(mode) || !isBits(from, a) {
		return 0, 0
	}
	x, flags := packNum(to, mode, Unpack(from, a))
	if shapes[from].isSignalling(a) {
		flags += FlagBad
	}
	return x, flags
}
