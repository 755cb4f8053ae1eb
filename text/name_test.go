package text_test

import (
	"math/rand"
	"strings"
	"testing"
	"unicode/utf8"

	"tally/api"
	"tally/code"
	"tally/text"
)

// drawn makes a text of pieces at random: letters, signs, code points of all lengths, bytes that are no good UTF-8.
func drawn(r *rand.Rand, most int) string {
	pieces := []string{"a", "Z", "0", "9", "'", ".", "-", "_", " ", "\t", "\"", "\\", "É", "×", "þ", "Þ", "Ω", "€", "😀", "\ufffd", "\x00", "\x7f", "\x80", "\xc3", "\xed\xa0\x80", "\xff"}
	var b strings.Builder
	for range r.Intn(most + 1) {
		b.WriteString(pieces[r.Intn(len(pieces))])
	}
	return b.String()
}

// P2.1: the chapter's examples, and the lengths.
func TestCheckExamples(t *testing.T) {
	for _, s := range []string{"ann", "Ann-2", "a.b_c", "é", "\u00a0", "€", strings.Repeat("x", 64), strings.Repeat("é", 32), "x" + strings.Repeat("€", 21), strings.Repeat("😀", 16)} {
		if e := text.Check(s); e != api.OK {
			t.Errorf("Check(%q) = %d, want OK", s, e)
		}
	}
	for _, s := range []string{"", strings.Repeat("x", 65), strings.Repeat("é", 33), "x" + strings.Repeat("é", 32), strings.Repeat("😀", 17), "a b", "a/b", "a\x7f", "\x80", "\xed\xa0\x80"} {
		if e := text.Check(s); e != api.ErrTextName {
			t.Errorf("Check(%q) = %d, want ErrTextName", s, e)
		}
	}
}

// P2.1: every code point alone, and within a name.
func TestCheckEachCodePoint(t *testing.T) {
	const signs = "-._0123456789abcdefghijklmnopqrstuvwxyzABCDEFGHIJKLMNOPQRSTUVWXYZ"
	for r := rune(0); r <= utf8.MaxRune; r++ {
		if !utf8.ValidRune(r) {
			continue
		}
		want := api.ErrTextName
		if r > 127 || strings.ContainsRune(signs, r) {
			want = api.OK
		}
		for _, s := range []string{string(r), "a" + string(r), string(r) + "b"} {
			if e := text.Check(s); e != want {
				t.Fatalf("Check(%q) = %d, want %d", s, e, want)
			}
		}
	}
}

// P2.1: bytes that are no good UTF-8, wherever they stand; the code point that stands for them elsewhere is a good one.
func TestCheckBadBytes(t *testing.T) {
	bad := []string{"\x80", "\xbf", "\xc3", "\xe2\x82", "\xf0\x9f\x98", "\xc0\x80", "\xc1\xbf", "\xe0\x9f\xbf", "\xf0\x8f\xbf\xbf", "\xed\xa0\x80", "\xed\xbf\xbf", "\xf4\x90\x80\x80", "\xf5\x80\x80\x80", "\xfe", "\xff"}
	for _, b := range bad {
		for _, s := range []string{b, "a" + b, b + "a", "é" + b + "é", b + b} {
			if e := text.Check(s); e != api.ErrTextName {
				t.Errorf("Check(%q) = %d, want ErrTextName", s, e)
			}
		}
	}
	for _, s := range []string{"\ufffd", "\ud7ff", "\ue000", "\U0010ffff"} {
		if e := text.Check(s); e != api.OK {
			t.Errorf("Check(%q) = %d, want OK", s, e)
		}
	}
}

// P2.2: the chapter's examples, and bytes that are no good UTF-8.
func TestFoldExamples(t *testing.T) {
	for _, c := range [][2]string{
		{"", ""}, {"Ann-É×Ω", "ann-é×Ω"}, {"\xffA", "\xffa"}, {"A\xff", "a\xff"},
		{"\xc3\xc3A\xc3", "\xc3\xc3a\xc3"}, {"\xc3", "\xc3"}, {"\xc1\x81", "\xc1\x81"}, {"\xed\xa0\x80B", "\xed\xa0\x80b"}, {"\x80\ufffdZ", "\x80\ufffdz"},
	} {
		if g := text.Fold(c[0]); g != c[1] {
			t.Errorf("Fold(%q) = %q, want %q", c[0], g, c[1])
		}
	}
}

// P2.2: every code point, within a name.
func TestFoldEachCodePoint(t *testing.T) {
	for r := rune(0); r <= utf8.MaxRune; r++ {
		if !utf8.ValidRune(r) {
			continue
		}
		want := r
		if r >= 0x41 && r <= 0x5a || r >= 0xc0 && r <= 0xde && r != 0xd7 {
			want = r + 32
		}
		if g := text.Fold("Q" + string(r) + "€"); g != "q"+string(want)+"€" {
			t.Fatalf("Fold of U+%04X: %q", r, g)
		}
	}
}

// P2.2: what follows from it: Fold of Fold, the length, what Check says.
func TestFoldKeeps(t *testing.T) {
	r := rand.New(rand.NewSource(22))
	for range 20000 {
		s := drawn(r, 20)
		f := text.Fold(s)
		if text.Fold(f) != f || len(f) != len(s) || text.Check(f) != text.Check(s) {
			t.Fatalf("Fold(%q) = %q: again %q, Check %d and %d", s, f, text.Fold(f), text.Check(s), text.Check(f))
		}
	}
}

// P2.3: the chapter's examples; shards below 1, one, and more than the sum can be.
func TestHomeExamples(t *testing.T) {
	for _, c := range []struct {
		name         string
		shards, want int
	}{
		{"x", 0, 0}, {"x", -1, 0}, {"x", -1 << 63, 0}, {"x", 1, 0}, {"123456789", 8, 6},
		{"123456789", 1<<63 - 1, 0xcbf43926}, {"123456789", 0xcbf43926, 0}, {"123456789", 0xcbf43927, 0xcbf43926},
		{"", 8, 0}, {"A", 1000, 0xe8b7be43 % 1000},
	} {
		if g := text.Home(c.name, c.shards); g != c.want {
			t.Errorf("Home(%q, %d) = %d, want %d", c.name, c.shards, g, c.want)
		}
	}
}

// P2.3: any texts and shards; the homes of one account's names are one.
func TestHomeDrawn(t *testing.T) {
	r := rand.New(rand.NewSource(23))
	for range 5000 {
		s, shards := drawn(r, 20), r.Intn(12)-2
		want := 0
		if shards > 0 {
			want = int(code.Sum([]byte(text.Fold(s))) % uint32(shards))
		}
		if g := text.Home(s, shards); g != want || text.Home(text.Fold(s), shards) != want {
			t.Fatalf("Home(%q, %d) = %d, want %d", s, shards, g, want)
		}
	}
}

// P2.7: names longer than any that may be are answered too.
func TestLongNames(t *testing.T) {
	long := strings.Repeat("AÉ\xff", 100000)
	if e := text.Check(long); e != api.ErrTextName {
		t.Errorf("Check of a long name: %d", e)
	}
	if f := text.Fold(long); f != strings.Repeat("aé\xff", 100000) {
		t.Errorf("Fold of a long name is wrong (%d bytes)", len(f))
	}
	if h := text.Home(long, 8); h != text.Home(text.Fold(long), 8) {
		t.Errorf("Home of a long name: %d", h)
	}
}
