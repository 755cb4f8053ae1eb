package text

import (
	"unicode/utf8"

	"tally/api"
)

// maxWords is how many words a line may have.
const maxWords = 16

// place says where in a line a parting stands.
type place int

const (
	between place = iota // among blanks: a word may begin
	bare                 // in a bare word
	quoted               // in a quoted word
	escaped              // behind a backslash in a quoted word
	closed               // behind a quoted word: a blank must come
)

// parting is a line on its way into words.
type parting struct {
	at    place
	word  []byte // what the word under way stands for so far
	words []string
}

// Words takes a line apart.
func Words(line string) ([]string, api.Errno) {
	if len(line) > api.MaxLine || !utf8.ValidString(line) {
		return nil, api.ErrTextLine
	}
	var p parting
	for _, r := range line {
		if !mayStand(r) || !p.take(r) {
			return nil, api.ErrTextLine
		}
	}
	if !p.end() || len(p.words) > maxWords {
		return nil, api.ErrTextLine
	}
	return p.words, api.OK
}

func mayStand(r rune) bool {
	return r == '\t' || r >= ' ' && r != '\u007f'
}

func isBlank(r rune) bool {
	return r == ' ' || r == '\t'
}

// take goes on by one code point; false, if it may not stand there.
func (p *parting) take(r rune) bool {
	switch p.at {
	case between:
		return p.begin(r)
	case bare:
		return p.inBare(r)
	case quoted:
		return p.inQuoted(r)
	case escaped:
		return p.unescape(r)
	}
	return p.behind(r)
}

func (p *parting) begin(r rune) bool {
	switch {
	case isBlank(r):
		return true
	case r == '"':
		p.at = quoted
		return true
	}
	p.at = bare
	return p.inBare(r)
}

func (p *parting) inBare(r rune) bool {
	switch {
	case isBlank(r):
		p.finish()
		return true
	case r == '"', r == '\\':
		return false
	}
	p.add(r)
	return true
}

func (p *parting) inQuoted(r rune) bool {
	switch r {
	case '"':
		p.at = closed
	case '\\':
		p.at = escaped
	default:
		p.add(r)
	}
	return true
}

func (p *parting) unescape(r rune) bool {
	if r != '"' && r != '\\' {
		return false
	}
	p.add(r)
	p.at = quoted
	return true
}

func (p *parting) behind(r rune) bool {
	if !isBlank(r) {
		return false
	}
	p.finish()
	return true
}

// end tells whether the line may end here; the word under way is the last one then.
func (p *parting) end() bool {
	// A blank ends every word that may end, and leaves the others open.
	return p.take(' ') && p.at == between
}

func (p *parting) add(r rune) {
	p.word = utf8.AppendRune(p.word, r)
}

func (p *parting) finish() {
	p.words = append(p.words, string(p.word))
	p.word = p.word[:0]
	p.at = between
}
