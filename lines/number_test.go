package lines_test

import (
	"fmt"
	"math"
	"math/big"
	"regexp"
	"strings"
	"testing"

	"lychgate/lines"
)

const mostNumber = 1099511627776 // 2^40

func isNumber(t *testing.T, s string, want int64) {
	t.Helper()
	if n, ok := lines.Number(s); n != want || !ok {
		t.Errorf("Number(%q): %d, %v, want %d", s, n, ok, want)
	}
}

func noNumber(t *testing.T, s string) {
	t.Helper()
	if n, ok := lines.Number(s); n != 0 || ok {
		t.Errorf("Number(%.60q): %d, %v, want none", s, n, ok)
	}
}

// P12.1: numbers of each length.
func TestNumber(t *testing.T) {
	for n := range int64(3000) {
		isNumber(t, fmt.Sprint(n), n)
	}
	for n := int64(1); n < mostNumber; n = n*3 + 1 {
		isNumber(t, fmt.Sprint(n), n)
		isNumber(t, fmt.Sprint(mostNumber-n), mostNumber-n)
	}
	for n := int64(1); n <= mostNumber; n *= 10 {
		isNumber(t, fmt.Sprint(n), n)
		isNumber(t, fmt.Sprint(n-1), n-1)
	}
	for k := range 41 {
		isNumber(t, fmt.Sprint(int64(1)<<k), 1<<k)
	}
	isNumber(t, "1234567890", 1234567890)
	isNumber(t, "999999999999", 999999999999)
}

// P12.1: the least and the greatest numbers, and those behind it.
func TestNumberBounds(t *testing.T) {
	isNumber(t, "0", 0)
	isNumber(t, "1", 1)
	isNumber(t, "1099511627775", mostNumber-1)
	isNumber(t, "1099511627776", mostNumber)
	for n := int64(mostNumber + 1); n < mostNumber+300; n++ {
		noNumber(t, fmt.Sprint(n))
	}
	for _, s := range []string{
		"1099511627780", "1099511627786", "1099511627876", "1199511627776", "2000000000000", "2099511627776", "9999999999999", "10995116277760",
		"9007199254740993", "9223372036854775806", "9223372036854775807", "9223372036854775808", "9223372036854775809",
		"18446744073709551614", "18446744073709551615", "18446744073709551616", "18446744073709551617", "18446744073709551623",
		"36893488147419103232", "18446745173221179392", "340282366920938463463374607431768211456", "340282366920938463463374607431768211463",
	} {
		noNumber(t, s)
	}
	for k := 41; k < 300; k++ {
		n := new(big.Int).Lsh(big.NewInt(1), uint(k))
		noNumber(t, n.String())
		// What is left of these where sums wrap is a number.
		noNumber(t, n.Add(n, big.NewInt(7)).String())
	}
}

// P12.1, P0.1: texts of very many digits.
func TestManyDigits(t *testing.T) {
	for _, n := range []int{14, 19, 20, 21, 40, 100, 1000, 1 << 20} {
		for _, d := range "0123456789" {
			noNumber(t, strings.Repeat(string(d), n))
		}
		noNumber(t, "1"+strings.Repeat("0", n))
		noNumber(t, strings.Repeat("0", n)+"1")
		noNumber(t, strings.Repeat("0", n)+"1099511627776")
	}
}

// P12.1: a nought alone is a number, one ahead of other digits is needless.
func TestNeedlessNoughts(t *testing.T) {
	isNumber(t, "0", 0)
	isNumber(t, "10", 10)
	isNumber(t, "100", 100)
	isNumber(t, "101", 101)
	for n := 1; n < 30; n++ {
		noughts := strings.Repeat("0", n)
		noNumber(t, noughts+"0")
		for _, s := range []string{"1", "7", "10", "100", "1099511627776", "1099511627777"} {
			noNumber(t, noughts+s)
		}
	}
}

// P12.1: each byte that is no digit, ahead of digits, among them, behind them and
// alone: signs, blanks, letters, dots and all others.
func TestDigitsAlone(t *testing.T) {
	noNumber(t, "")
	for c := range 256 {
		s := string([]byte{byte(c)})
		if '0' <= c && c <= '9' {
			isNumber(t, s, int64(c-'0'))
			continue
		}
		noNumber(t, s)
		for _, n := range []string{"0", "1", "12", "123", "1099511627776", "1099511627777", strings.Repeat("9", 40)} {
			noNumber(t, s+n)
			noNumber(t, n+s)
			noNumber(t, n+s+n)
			noNumber(t, s+n+s)
			noNumber(t, s+s+n)
		}
	}
}

// P12.1: what elsewhere is written for numbers.
func TestOtherNumbers(t *testing.T) {
	for _, s := range []string{
		"-1", "+1", "-0", "+0", "--1", "+-1", "-", "+", "-9223372036854775808", " 1", "1 ", "\t1", "1\n", "1\r", "\n1", "1 2",
		"0x10", "0b1", "0o7", "10h", "a", "ff", "1a", "a1", "1e3", "1E3", "1.0", ".5", "5.", "1,000", "1_000", "1'000", "_1", "1_", "1/2",
		"NaN", "Inf", "infinity", "one", "-1099511627776", "\x001", "1\x00",
	} {
		noNumber(t, s)
	}
	for _, s := range odd() {
		noNumber(t, s)
		noNumber(t, "1"+s)
		noNumber(t, s+"1")
		noNumber(t, "1"+s+"1")
	}
}

var form = regexp.MustCompile(`\A(0|[1-9][0-9]*)\z`)

// isModelNumber checks a text against the words of the promise.
func isModelNumber(t *testing.T, s string) {
	t.Helper()
	n := new(big.Int)
	if form.MatchString(s) {
		n.SetString(s, 10)
	} else {
		n.SetInt64(-1)
	}
	if n.Sign() < 0 || n.Cmp(big.NewInt(mostNumber)) > 0 {
		noNumber(t, s)
		return
	}
	isNumber(t, s, n.Int64())
}

// P12.1: all texts of a few pieces.
func TestNumberAgainstModel(t *testing.T) {
	texts(5, []string{"0", "1", "9", "5116", "10995", "27776", "27777", "-", " ", "é"}, func(s string) {
		isModelNumber(t, s)
	})
}

// P12.1: in decimal, from the least to the greatest.
func TestPrint(t *testing.T) {
	for n, want := range map[int64]string{
		0: "0", 1: "1", 9: "9", 10: "10", 11: "11", 99: "99", 100: "100", 120: "120", 1000: "1000", 65536: "65536",
		-1: "-1", -9: "-9", -10: "-10", -100: "-100", -120: "-120",
		math.MaxInt32: "2147483647", math.MinInt32: "-2147483648", math.MaxUint32: "4294967295", math.MaxUint32 + 1: "4294967296",
		mostNumber: "1099511627776", mostNumber + 1: "1099511627777", -mostNumber: "-1099511627776", 1<<53 + 1: "9007199254740993",
		math.MaxInt64: "9223372036854775807", math.MaxInt64 - 1: "9223372036854775806",
		math.MinInt64: "-9223372036854775808", math.MinInt64 + 1: "-9223372036854775807",
	} {
		if got := lines.Print(n); got != want {
			t.Errorf("Print(%d): %q", n, got)
		}
	}
	prints := func(n int64) {
		t.Helper()
		if got, want := lines.Print(n), big.NewInt(n).String(); got != want {
			t.Errorf("Print: %q, want %q", got, want)
		}
	}
	for n := range int64(3000) {
		prints(n)
		prints(-n)
		prints(math.MaxInt64 - n)
		prints(math.MinInt64 + n)
	}
	for n := int64(1); n > 0; n *= 2 {
		prints(n - 1)
		prints(n)
		prints(-n)
		prints(^n)
	}
}

// P12.1: what Print writes of a number is that number to Number, and of no other
// one.
func TestPrintedNumbers(t *testing.T) {
	for _, at := range []int64{0, 1000, 1 << 31, 1 << 32, mostNumber - 500, mostNumber + 1, 1 << 53, math.MaxInt64 - 500, math.MinInt64, -1000, -mostNumber} {
		for n := at; n-at < 500; n++ {
			if 0 <= n && n <= mostNumber {
				isNumber(t, lines.Print(n), n)
			} else {
				noNumber(t, lines.Print(n))
			}
		}
	}
}
