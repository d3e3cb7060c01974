package tests

import (
	"math/big"
	"regexp"
	"strconv"
	"strings"

	"loop.example/g00043/impl"
)

// This file works chapter 2 out a second time: a number text is what a pattern takes, numbers and decimals are exact fractions, and the shortest decimal is looked for between the two middles around a number.

var numberText = regexp.MustCompile(`^(-?inf|nan|-?((0|[1-9][0-9]*)(?:\.([0-9]+))?)(?:e(0|-?[1-9][0-9]*))?)$`)

func isNumberText(text string) bool {
	parts := numberText.FindStringSubmatch(text)
	if parts == nil {
		return false
	}
	power, _ := new(big.Int).SetString("0"+strings.TrimPrefix(parts[5], "-"), 10)
	return len(parts[3])+len(parts[4]) <= impl.MaxDigits && power.Cmp(big.NewInt(impl.MaxPower)) <= 0
}

// read tells what ReadNum must answer, by all modes.
func (s formShape) read(text string) (formAnswer, bool) {
	neg := strings.HasPrefix(text, "-")
	switch {
	case !isNumberText(text):
		return formAnswer{}, false
	case text == "nan":
		return sameAnswer(s.plain(), 0), true
	case strings.HasSuffix(text, "inf"):
		return sameAnswer(s.inf(neg), 0), true
	}
	v, _ := new(big.Rat).SetString(text)
	if v.Sign() == 0 {
		return sameAnswer(s.zero(neg), 0), true
	}
	return s.roundValue(v), true
}

func tenPower(k int) *big.Rat {
	if k < 0 {
		return new(big.Rat).Inv(tenPower(-k))
	}
	return new(big.Rat).SetInt(new(big.Int).Exp(big.NewInt(10), big.NewInt(int64(k)), nil))
}

// firstPower is the power of ten of the first digit of a size above 0.
func firstPower(size *big.Rat) int {
	k := int(float64(size.Num().BitLen()-size.Denom().BitLen()) * 0.30103)
	for size.Cmp(tenPower(k)) < 0 {
		k--
	}
	for size.Cmp(tenPower(k+1)) >= 0 {
		k++
	}
	return k
}

func wholePart(r *big.Rat) *big.Int { return new(big.Int).Quo(r.Num(), r.Denom()) }

// middles are the ends of what is read (NearEven) as a finite size above 0, and whether the ends are too.
func (s formShape) middles(x uint64) (*big.Rat, *big.Rat, bool) {
	half := big.NewRat(1, 2)
	low := new(big.Rat).Add(s.size(x-1), s.size(x))
	high := new(big.Rat).Add(s.size(x), s.size(x+1))
	return low.Mul(low, half), high.Mul(high, half), x%2 == 0
}

// short looks for the decimals of ever more digits that lie between the middles.
func (s formShape) short(x uint64) string {
	neg, size := s.isNeg(x), x&^s.sign()
	v := s.size(size)
	low, high, ends := s.middles(size)
	for count := 1; ; count++ {
		var best *big.Int
		var bestAway *big.Rat
		bestPower := 0
		for power := firstPower(v) - 1; power <= firstPower(v)+1; power++ {
			unit := tenPower(power - count + 1)
			for d := wholePart(new(big.Rat).Quo(low, unit)); ; d.Add(d, big.NewInt(1)) {
				decimal := new(big.Rat).SetInt(d)
				decimal.Mul(decimal, unit)
				if decimal.Cmp(high) > 0 {
					break
				}
				if len(d.String()) != count || d.Sign() == 0 || decimal.Cmp(low) < 0 || !ends && (decimal.Cmp(low) == 0 || decimal.Cmp(high) == 0) {
					continue
				}
				away := decimal.Sub(decimal, v)
				away.Abs(away)
				if best == nil || away.Cmp(bestAway) < 0 || away.Cmp(bestAway) == 0 && d.Bit(0) == 0 {
					best, bestAway, bestPower = new(big.Int).Set(d), away, power
				}
			}
		}
		if best != nil {
			return signOf(neg) + scienceText(best.String(), bestPower)
		}
	}
}

func signOf(neg bool) string {
	if neg {
		return "-"
	}
	return ""
}

// scienceText writes digits with the point behind the first one, which has that power.
func scienceText(digits string, power int) string {
	if len(digits) > 1 {
		digits = digits[:1] + "." + digits[1:]
	}
	return digits + "e" + strconv.Itoa(power)
}

// digits are the first n of a finite number that is not 0, by each of formModes, and the power of the first.
func (s formShape) digits(x uint64, n int) ([5]string, [5]int) {
	size := s.size(x &^ s.sign())
	power := firstPower(size)
	scaled := new(big.Rat).Quo(size, tenPower(power-n+1))
	low := wholePart(scaled)
	rest := scaled.Sub(scaled, new(big.Rat).SetInt(low))
	half := rest.Cmp(big.NewRat(1, 2))
	some := rest.Sign() != 0
	ups := [5]bool{half > 0 || half == 0 && low.Bit(0) == 1, half >= 0, false, some && !s.isNeg(x), some && s.isNeg(x)}
	var texts [5]string
	var powers [5]int
	for i, up := range ups {
		d := new(big.Int).Set(low)
		if up {
			d.Add(d, big.NewInt(1))
		}
		texts[i], powers[i] = d.String(), power
		if len(texts[i]) > n {
			texts[i], powers[i] = texts[i][:n], power+1
		}
	}
	return texts, powers
}

// allDigits are the digits of a size above 0 whose denominator is a power of two, and the power of the first.
func allDigits(size *big.Rat) (string, int) {
	text := size.FloatString(1200)
	digits := strings.TrimLeft(strings.Replace(text, ".", "", 1), "0")
	return strings.TrimRight(digits, "0"), firstPower(size)
}

// besides are decimals of at most MaxDigits digits: a size itself if it has no more, and one a little below and a little above it.
func besides(size *big.Rat) []string {
	digits, power := allDigits(size)
	if len(digits) < impl.MaxDigits {
		one := big.NewInt(1)
		long := digits + strings.Repeat("0", impl.MaxDigits-len(digits))
		d, _ := new(big.Int).SetString(long, 10)
		above := new(big.Int).Add(d, one).String()
		below := new(big.Int).Sub(d, one).String()
		return []string{scienceText(digits, power), scienceText(above, power), scienceText(below, power-(len(long)-len(below)))}
	}
	cut := digits[:impl.MaxDigits]
	d, _ := new(big.Int).SetString(cut, 10)
	above := d.Add(d, big.NewInt(1)).String()
	return []string{scienceText(cut, power), scienceText(above, power+len(above)-len(cut))}
}
