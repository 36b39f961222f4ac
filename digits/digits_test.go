package digits_test

import (
	"math"
	"regexp"
	"strconv"
	"strings"
	"testing"

	"logjam/digits"
	"logjam/internal/draws"
)

// asWritten is what a number looks like.
var asWritten = regexp.MustCompile(`\A(0|-?[1-9][0-9]*)\z`)

// reads fails, if a text with so many digits at most is read as anything but the number; false, if it is none.
func reads(t *testing.T, text string, most, want int, is bool) {
	t.Helper()
	if n, ok := digits.Read(text, most); n != want || ok != is {
		t.Errorf("%.40q of %d digits: %d, %v, not %d, %v", text, most, n, ok, want, is)
	}
}

func TestNumbersAreRead(t *testing.T) {
	for _, n := range []int{math.MinInt, math.MinInt + 1, -9999999999, -1 << 33, -1 << 31, -1000000000, -999999999, -100, -99, -10, -9, -1, 0, 1, 9, 10, 99, 100, 999999999, 1000000000, 1<<31 - 1, 1 << 31, 1 << 33, 9999999999, math.MaxInt - 1, math.MaxInt} {
		reads(t, strconv.Itoa(n), 19, n, true)
		reads(t, strconv.Itoa(n), math.MaxInt, n, true)
	}
}

func TestHowManyDigitsThereMayBe(t *testing.T) {
	for many := 1; many <= 18; many++ {
		for _, digit := range []string{"1", "5", "9"} {
			text := strings.Repeat(digit, many)
			n, _ := strconv.Atoi(text)
			for most := range 20 {
				want, is := 0, many <= most
				if is {
					want = n
				}
				reads(t, text, most, want, is)
				reads(t, "-"+text, most, -want, is)
			}
		}
	}
	for _, most := range []int{0, -1, math.MinInt} {
		reads(t, "0", most, 0, false)
		reads(t, "-1", most, 0, false)
	}
	reads(t, "0", 1, 0, true)
	reads(t, "10", 1, 0, false)
}

func TestTextsThatAreNoNumbers(t *testing.T) {
	for _, text := range []string{
		"", " ", "-", "--", "+", "+1", "+0", "-0", "--1", "-+1", "1-", "00", "01", "-01", "-00", "007", "0x1", "0b1", "0o7", "1_0", "1e1", "1.0", ".5", "1,0",
		" 1", "1 ", "1\n", "\t1", "1\r", "1\x00", "- 1", "1 2", "a", "1a", "a1", "−1", "²", "１", "\xff", "1\xff", "Inf", "NaN", "nil",
		"9223372036854775808", "-9223372036854775809", "18446744073709551615", "18446744073709551617", "99999999999999999999", strings.Repeat("1", 5000), strings.Repeat("0", 5000), strings.Repeat("-", 5000),
	} {
		for _, most := range []int{0, 1, 2, 10, 19, 20, math.MaxInt} {
			reads(t, text, most, 0, false)
		}
	}
}

func TestAllShortTexts(t *testing.T) {
	const from = "0129-+ _.x"
	texts := []string{""}
	for k := 0; k < len(texts); k++ {
		want, err := strconv.Atoi(texts[k])
		is := err == nil && asWritten.MatchString(texts[k])
		if !is {
			want = 0
		}
		reads(t, texts[k], 4, want, is)
		for n := range len(from) {
			if len(texts[k]) < 4 {
				texts = append(texts, texts[k]+from[n:n+1])
			}
		}
	}
}

func TestDrawnNumbers(t *testing.T) {
	r := draws.Row(1)
	for range 10000 {
		n := int(r.Next()) >> (r.Next() % 64)
		text := strconv.Itoa(n)
		many := len(strings.Trim(text, "-"))
		reads(t, text, many, n, true)
		reads(t, text, many-1, 0, false)
		reads(t, "0"+text, many+1, 0, false)
		reads(t, "+"+text, many+1, 0, false)
	}
}
