package text_test

import (
	"math/rand"
	"slices"
	"strings"
	"testing"
	"unicode/utf8"

	"tally/api"
	"tally/text"
)

// good asks for the words of a line, bad for its refusal.
func good(t *testing.T, line string, want ...string) {
	t.Helper()
	if g, e := text.Words(line); e != api.OK || !slices.Equal(g, want) {
		t.Errorf("Words(%.60q) = %q, %d, want %q", line, g, e, want)
	}
}

func bad(t *testing.T, line string) {
	t.Helper()
	if g, e := text.Words(line); e != api.ErrTextLine || len(g) != 0 {
		t.Errorf("Words(%.60q) = %q, %d, want ErrTextLine", line, g, e)
	}
}

// P2.6: the chapter's examples, and lines like them.
func TestWordsExamples(t *testing.T) {
	good(t, "  pay\tann \"bob \\\"b\\\"\" 5.00 \"\"", "pay", "ann", `bob "b"`, "5.00", "")
	good(t, "")
	good(t, " \t \t")
	good(t, "a", "a")
	good(t, "\ta\t\tb ", "a", "b")
	good(t, `"a b"`, "a b")
	good(t, "\"\t\" x", "\t", "x")
	good(t, `"\\" "\"" "\\\""`, `\`, `"`, `\"`)
	good(t, `"" "" `, "", "")
	good(t, "'#é€😀 \ufffd \u0080 \u00a0", "'#é€😀", "\ufffd", "\u0080", "\u00a0")
	good(t, `a "b" c`, "a", "b", "c")
}

// P2.6: what is no row of words.
func TestWordsBad(t *testing.T) {
	for _, s := range []string{
		`a"b`, `"a"b`, `"a`, `"\n"`, `a\b`, "a\x00", "\xff",
		`"`, `\`, `a"`, `a\`, `""a`, `"a""b"`, `"a"\`, `"\`, `"\"`, `"\\\"`, `"a\`, `"\ "`, `"\a`, ` "a `, "\"a\t", `a "b`, `"\é"`, `\a`, `"a" b"`, "a \xc3", "\xed\xa0\x80", "\"\xff\"",
	} {
		bad(t, s)
	}
}

// P2.6: each code point below 32, and 127, wherever it stands.
func TestWordsSigns(t *testing.T) {
	for r := rune(0); r < 160; r++ {
		s := string(r)
		switch {
		case r == 9 || r == 32:
			good(t, "a"+s+"b", "a", "b")
			good(t, `"a`+s+`b"`, "a"+s+"b")
		case r < 32 || r == 127:
			bad(t, s)
			bad(t, "a "+s)
			bad(t, "a"+s+"b")
			bad(t, `"a`+s+`b"`)
			bad(t, "a"+s)
		case r == '"' || r == '\\':
			bad(t, "a"+s+"b")
			good(t, `"a\`+s+`b"`, "a"+s+"b")
		default:
			good(t, "a"+s+"b", "a"+s+"b")
			good(t, `"a`+s+`b"`, "a"+s+"b")
			bad(t, `"a\`+s+`b"`)
		}
	}
}

// P2.6: 16 and 17 words, MaxLine bytes and one more.
func TestWordsLimits(t *testing.T) {
	sixteen := strings.Repeat("a ", 16)
	good(t, sixteen, strings.Fields(sixteen)...)
	good(t, strings.TrimSpace(sixteen), strings.Fields(sixteen)...)
	good(t, strings.Repeat(`"" `, 16), make([]string, 16)...)
	good(t, strings.Repeat("a ", 15)+`"b c"`, append(strings.Fields(strings.Repeat("a ", 15)), "b c")...)
	bad(t, sixteen+"a")
	bad(t, sixteen+"a ")
	bad(t, sixteen+`""`)
	bad(t, strings.Repeat("a ", 400))
	for _, s := range []string{"x", " ", "é", "€"} {
		full := strings.Repeat(s, api.MaxLine/len(s))
		full += strings.Repeat("x", api.MaxLine-len(full))
		good(t, full, strings.Fields(full)...)
		bad(t, full+"x")
		bad(t, full+" ")
	}
	bad(t, strings.Repeat("é", 513))
	bad(t, strings.Repeat("x", 1<<20))
}

// quote writes a word so that Words takes it off again.
func quote(word string) string {
	return `"` + strings.NewReplacer(`\`, `\\`, `"`, `\"`).Replace(word) + `"`
}

// P2.6: words that are drawn, quoted or bare, with blanks of any number between.
func TestWordsDrawn(t *testing.T) {
	r := rand.New(rand.NewSource(26))
	blanks := []string{" ", "\t", "  ", " \t ", "\t\t"}
	for range 20000 {
		var want []string
		line := blanks[r.Intn(len(blanks))]
		for range r.Intn(17) {
			w := strings.Map(func(c rune) rune {
				if c == utf8.RuneError || c == 127 || c < 32 && c != 9 {
					return -1
				}
				return c
			}, drawn(r, 6))
			want = append(want, w)
			if w == "" || strings.ContainsAny(w, " \t\"\\") || r.Intn(2) == 0 {
				w = quote(w)
			}
			line += w + blanks[r.Intn(len(blanks))]
		}
		good(t, line, want...)
		good(t, strings.Trim(line, " \t"), want...)
	}
}

// P2.6, P2.7: any bytes: the words come back from a line that is made of them, or there are none.
func TestWordsAny(t *testing.T) {
	r := rand.New(rand.NewSource(27))
	for range 50000 {
		line := drawn(r, 15)
		g, e := text.Words(line)
		if e == api.ErrTextLine && len(g) == 0 {
			continue
		}
		if e != api.OK || len(g) > 16 || !utf8.ValidString(line) {
			t.Fatalf("Words(%q) = %q, %d", line, g, e)
		}
		again := ""
		for _, w := range g {
			again += quote(w) + " "
		}
		good(t, again, g...)
	}
}

// P2.7: two answers share no memory, nor their spare room.
func TestWordsMemory(t *testing.T) {
	a, _ := text.Words("one two three")
	b, _ := text.Words("one two three")
	a = append(a, "four")
	for i := range a[:cap(a)] {
		a[:cap(a)][i] = "spoilt"
	}
	if !slices.Equal(b, []string{"one", "two", "three"}) {
		t.Errorf("an answer has changed: %q", b)
	}
	good(t, "one two three", "one", "two", "three")
}
