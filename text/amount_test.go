package text_test

import (
	"math/big"
	"math/rand"
	"regexp"
	"strings"
	"testing"

	"tally/api"
	"tally/text"
)

// form is the chapter's form of an amount, told another way than the program tells it.
var form = regexp.MustCompile(`^(0|[1-9][0-9]*|[1-9][0-9]{0,2}('[0-9]{3})+)(\.[0-9]{2})?$`)

// plainAmount says what Amount must answer, by the form and by numbers of any size.
func plainAmount(s string) (uint64, api.Errno) {
	if !form.MatchString(s) || strings.HasSuffix(s, "\n") {
		return 0, api.ErrTextAmount
	}
	digits := strings.ReplaceAll(s, "'", "")
	if !strings.Contains(digits, ".") {
		digits += ".00"
	}
	n, _ := new(big.Int).SetString(strings.Replace(digits, ".", "", 1), 10)
	if n.Cmp(big.NewInt(api.MaxSupply)) > 0 {
		return 0, api.ErrTextOver
	}
	return n.Uint64(), api.OK
}

// P2.4: the chapter's examples, and neighbours of theirs.
func TestAmountExamples(t *testing.T) {
	for s, n := range map[string]uint64{
		"0": 0, "0.00": 0, "7": 700, "0.05": 5, "1234.50": 123450, "1'234.50": 123450, "10": 1000, "12'345": 1234500, "123'456.78": 12345678, "1'000'000": 100000000,
		"90'071'992'547'409.92": 1 << 53, "90071992547409.92": 1 << 53, "90071992547409.91": 1<<53 - 1, "90071992547409": 9007199254740900,
	} {
		if g, e := text.Amount(s); g != n || e != api.OK {
			t.Errorf("Amount(%q) = %d, %d, want %d", s, g, e, n)
		}
	}
	for _, s := range []string{
		"", "00", "01", ".50", "5.", "1.2", "1.234", "+1", "1e3", "1'23", "1234'567", "'123", "1''234", "0'000",
		"-1", " 1", "1 ", "1'", "1'234'", "1'2345", "1'234'5", "0.5'0", "1.'23", "1.00.00", "1..00", ".", "'", "0'123", "00.00", "01'234", "1'23a", "a", "1\x00", "\xff", "1.\xff\xff", "1'\xff\xff\xff", "٣", "１", "1’234", "1,00", "0x1",
	} {
		if g, e := text.Amount(s); g != 0 || e != api.ErrTextAmount {
			t.Errorf("Amount(%q) = %d, %d, want ErrTextAmount", s, g, e)
		}
	}
	for _, s := range []string{
		"90071992547409.93", "90'071'992'547'409.93", "90071992547410", "90'071'992'547'410.00", "9007199254740992", "184467440737095516.16", "18446744073709551616", "18446744073709551617.00", "1" + strings.Repeat("0", 100), "1" + strings.Repeat("'000", 1000) + ".00", strings.Repeat("9", 100000),
	} {
		if g, e := text.Amount(s); g != 0 || e != api.ErrTextOver {
			t.Errorf("Amount(%.40q) = %d, %d, want ErrTextOver", s, g, e)
		}
	}
}

// P2.4: no form comes ahead of too much.
func TestAmountFormFirst(t *testing.T) {
	nines := strings.Repeat("9", 100)
	for _, s := range []string{nines + ".", nines + ".9", nines + "'999", nines + "x", "0" + nines, nines + ".999"} {
		if g, e := text.Amount(s); g != 0 || e != api.ErrTextAmount {
			t.Errorf("Amount(%q) = %d, %d, want ErrTextAmount", s, g, e)
		}
	}
}

// P2.4, P2.7: all short texts of the signs that amounts are made of, and drawn ones of any bytes.
func TestAmountDrawn(t *testing.T) {
	check := func(s string) {
		want, wantE := plainAmount(s)
		if g, e := text.Amount(s); g != want || e != wantE {
			t.Fatalf("Amount(%q) = %d, %d, want %d, %d", s, g, e, want, wantE)
		}
	}
	const signs = "017'.x"
	var all func(s string, left int)
	all = func(s string, left int) {
		check(s)
		for i := 0; left > 0 && i < len(signs); i++ {
			all(s+signs[i:i+1], left-1)
		}
	}
	all("", 6)
	r := rand.New(rand.NewSource(24))
	for range 50000 {
		check(drawn(r, 12))
		b := []byte(text.Money(r.Uint64() >> r.Intn(64)))
		b[r.Intn(len(b))] = "0123456789'. "[r.Intn(13)]
		check(string(b))
	}
}

// P2.5: the chapter's examples, and where groups begin.
func TestMoneyExamples(t *testing.T) {
	for n, s := range map[uint64]string{
		0: "0.00", 5: "0.05", 10: "0.10", 99: "0.99", 100: "1.00", 99999: "999.99", 100000: "1'000.00", 123450: "1'234.50", 1000000: "10'000.00", 99999999: "999'999.99", 100000000: "1'000'000.00",
		100000500: "1'000'005.00", 1 << 53: "90'071'992'547'409.92", 1<<64 - 1: "184'467'440'737'095'516.15",
	} {
		if g := text.Money(n); g != s {
			t.Errorf("Money(%d) = %q, want %q", n, g, s)
		}
	}
}

// P2.5: what is written is read; beyond MaxSupply it is too much, of a good form.
func TestMoneyThere(t *testing.T) {
	r := rand.New(rand.NewSource(25))
	for i := range 100000 {
		n := r.Uint64() >> r.Intn(64)
		switch {
		case i < 2000:
			n = uint64(i)
		case i < 4000:
			n = api.MaxSupply + 1000 - uint64(i-2000)
		}
		s := text.Money(n)
		g, e := text.Amount(s)
		if n <= api.MaxSupply && (g != n || e != api.OK) || n > api.MaxSupply && (g != 0 || e != api.ErrTextOver) {
			t.Fatalf("Amount(Money(%d)) = %d, %d (%q)", n, g, e, s)
		}
	}
}

// P2.5: what is read is written with groups and two digits.
func TestMoneyBack(t *testing.T) {
	for s, want := range map[string]string{"0": "0.00", "7": "7.00", "1234": "1'234.00", "1234567.89": "1'234'567.89", "12'345": "12'345.00", "1'234.50": "1'234.50"} {
		n, e := text.Amount(s)
		if e != api.OK || text.Money(n) != want {
			t.Errorf("Money(Amount(%q)) = %q, %d, want %q", s, text.Money(n), e, want)
		}
	}
}
