package forest

import (
	"math/big"
	"slices"
	"testing"
)

// numbersOf gives numbers of so many words: the greatest, the least, and others with words of 0 in them.
func numbersOf(words int, seed uint64) []whole {
	if words == 0 {
		return []whole{nil}
	}
	greatest, least, mixed := make(whole, words), make(whole, words), make(whole, words)
	for i := range words {
		seed = seed*6364136223846793005 + 1442695040888963407
		greatest[i] = unit - 1
		if mixed[i] = seed % unit; seed>>60 < 4 {
			mixed[i] = 0
		}
	}
	least[words-1] = 1
	mixed[words-1]++
	return []whole{greatest, least, mixed}
}

func bigOf(w whole) *big.Int {
	out := new(big.Int)
	for i := len(w) - 1; i >= 0; i-- {
		out.Mul(out, big.NewInt(unit)).Add(out, new(big.Int).SetUint64(w[i]))
	}
	return out
}

// checkWhole asks that a number is another one, is told so, and has no needless words.
func checkWhole(t *testing.T, name string, got whole, want *big.Int) {
	t.Helper()
	if got.text() != want.String() {
		t.Errorf("%s: %.60s.., want %.60s..", name, got.text(), want)
	}
	if len(got) > 0 && got[len(got)-1] == 0 || slices.ContainsFunc(got, func(x uint64) bool { return x >= unit }) {
		t.Errorf("%s: words %v", name, got)
	}
}

// Numbers of all lengths, held against those of the library.
func TestWhole(t *testing.T) {
	lengths := []int{0, 1, 2, 3, 17, shortWords - 1, shortWords, shortWords + 1, 2*shortWords - 1, 2 * shortWords, 2*shortWords + 1, 3 * shortWords, 300}
	for _, n := range lengths {
		for _, m := range lengths {
			for i, a := range numbersOf(n, 1) {
				for k, b := range numbersOf(m, uint64(i)) {
					x, y := bigOf(a), bigOf(b)
					keptA, keptB := slices.Clone(a), slices.Clone(b)
					product := new(big.Int).Mul(x, y)
					checkWhole(t, "times", whole(nil).plusTimes(a, b), product)
					checkWhole(t, "plus", sum(a, b), new(big.Int).Add(x, y))
					for _, length := range []int{0, 1, n, n + m, n + m + 3} {
						for _, c := range numbersOf(length, uint64(k)) {
							z := bigOf(c)
							checkWhole(t, "plusTimes", slices.Clone(c).plusTimes(a, b), z.Add(z, product))
						}
					}
					if x.Cmp(y) >= 0 {
						checkWhole(t, "less", slices.Clone(a).less(b), new(big.Int).Sub(x, y))
					}
					if !slices.Equal(a, keptA) || !slices.Equal(b, keptB) {
						t.Fatalf("numbers of %d and %d words have changed", n, m)
					}
				}
			}
		}
	}
}

// As many products as are added ahead of one division have room.
func TestWholeHasRoom(t *testing.T) {
	most := new(big.Int).Mul(big.NewInt(unit-1), big.NewInt(unit-1))
	most.Mul(most, big.NewInt(shortWords)).Add(most, most)
	if most.BitLen() > 128 {
		t.Errorf("%d bits", most.BitLen())
	}
}

// Doublings never say more than there is.
func TestDoublings(t *testing.T) {
	atLeast := func(d doublings) *big.Int { return new(big.Int).Lsh(big.NewInt(1), uint(d-1)) }
	numbers := []int64{1, 2, 3, 4, 5, 7, 8, 100, 1023, 1024, 1025}
	for _, a := range numbers {
		for _, b := range numbers {
			for _, c := range append(numbers, 0) {
				of := func(n int64) doublings { return doublings(big.NewInt(n).BitLen()) }
				got := of(c).plusTimes(of(a), of(b))
				if atLeast(got).Cmp(big.NewInt(c+a*b)) > 0 {
					t.Errorf("%d + %d * %d: %d doublings", c, a, b, got)
				}
			}
		}
	}
	if got := doublings(maxDoublings).plusTimes(maxDoublings, maxDoublings); got != maxDoublings {
		t.Errorf("past the most: %d", got)
	}
	if got := doublings(0).plusTimes(maxDoublings, maxDoublings); got != maxDoublings {
		t.Errorf("past the most, as the first: %d", got)
	}
	// 10 doublings are more than 3 digits.
	digits := new(big.Int).Div(new(big.Int).Mul(big.NewInt(pastTelling), big.NewInt(301029995)), big.NewInt(1000000000))
	if digits.Cmp(big.NewInt(maxDigits)) < 0 {
		t.Errorf("numbers of %d digits are held to be past telling", digits)
	}
}
