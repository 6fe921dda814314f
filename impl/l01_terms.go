package impl

import "strings"

const (
	TmNone  = 0
	TmName  = 1
	TmText  = 2
	TmBlank = 3
	TmVar   = 4
	MaxName = 12
	MaxText = 12
)

const maxLabel = 6

// term is a word without the marks that tell its kind: each kind judges what stands within its own.
type term interface {
	right() bool
}

type nameTerm struct{ inside string }

// What a textTerm holds is still escaped: a text that can not be unescaped has no other form to be held in.
type textTerm struct{ inside string }

type blankTerm struct{ label string }

type varTerm struct{ label string }

func (t nameTerm) right() bool { return madeOf(t.inside, MaxName, isNameByte) }

func (t textTerm) right() bool {
	text, ok := Unescaped(t.inside)
	return ok && (text == "" || madeOf(text, MaxText, isTextByte))
}

func (t blankTerm) right() bool { return madeOf(t.label, maxLabel, isLabelByte) }

func (t varTerm) right() bool { return madeOf(t.label, maxLabel, isLabelByte) }

func isLabelByte(c byte) bool { return c >= 'a' && c <= 'z' || c >= '0' && c <= '9' }

func isNameByte(c byte) bool { return isLabelByte(c) || c == ':' || c == '/' || c == '#' }

func isTextByte(c byte) bool { return c >= 32 && c <= 126 || c == '\n' }

func madeOf(s string, most int, fits func(byte) bool) bool {
	if len(s) < 1 || len(s) > most {
		return false
	}
	for i := 0; i < len(s); i++ {
		if !fits(s[i]) {
			return false
		}
	}
	return true
}

func Escaped(s string) string {
	out := make([]byte, 0, len(s))
	for i := 0; i < len(s); i++ {
		switch s[i] {
		case '"', '\\':
			out = append(out, '\\', s[i])
		case '\n':
			out = append(out, '\\', 'n')
		default:
			out = append(out, s[i])
		}
	}
	return string(out)
}

func Unescaped(s string) (string, bool) {
	out := make([]byte, 0, len(s))
	for i := 0; i < len(s); i++ {
		switch s[i] {
		case '"', '\n':
			return "", false
		case '\\':
			i++
			if i == len(s) {
				return "", false
			}
			c, ok := escapedByte(s[i])
			if !ok {
				return "", false
			}
			out = append(out, c)
		default:
			out = append(out, s[i])
		}
	}
	return string(out), true
}

func escapedByte(mark byte) (byte, bool) {
	switch mark {
	case '"', '\\':
		return mark, true
	case 'n':
		return '\n', true
	}
	return 0, false
}

func KindOf(s string) int64 {
	t, ok := termOf(s)
	if !ok {
		return TmNone
	}
	switch t.(type) {
	case nameTerm:
		return TmName
	case textTerm:
		return TmText
	case blankTerm:
		return TmBlank
	case varTerm:
		return TmVar
	}
	return TmNone
}

func TextIn(s string) (string, bool) {
	t, ok := termOf(s)
	if !ok {
		return "", false
	}
	switch x := t.(type) {
	case textTerm:
		return Unescaped(x.inside)
	}
	return "", false
}

func termOf(s string) (term, bool) {
	t, ok := unmarked(s)
	if !ok || !t.right() {
		return nil, false
	}
	return t, true
}

func unmarked(s string) (term, bool) {
	if inside, ok := between(s, "<", ">"); ok {
		return nameTerm{inside}, true
	}
	if inside, ok := between(s, "\"", "\""); ok {
		return textTerm{inside}, true
	}
	if label, ok := strings.CutPrefix(s, "_:"); ok {
		return blankTerm{label}, true
	}
	if label, ok := strings.CutPrefix(s, "?"); ok {
		return varTerm{label}, true
	}
	return nil, false
}

// between cuts the first mark off before it looks for the last one: one quote alone is not both.
func between(s string, first string, last string) (string, bool) {
	rest, begins := strings.CutPrefix(s, first)
	inside, ends := strings.CutSuffix(rest, last)
	if !begins || !ends {
		return "", false
	}
	return inside, true
}
