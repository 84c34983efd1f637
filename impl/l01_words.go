package impl

import (
	"strconv"
	"strings"
)

const (
	MaxText   = 20000
	MaxNumber = 1000000000
	MaxWords  = 600
	MaxParts  = 10
)

const (
	figures = "0123456789abcdef"
	// MaxNumber has fewer than 5*7 bits; whatever goes on longer is no number, and must not run over an int.
	maxVarBytes = 5
	// MaxNumber has as many figures; whatever is longer needn't be gone through.
	maxFigures = 10
)

func VarText(n int) (string, bool) {
	if n < 0 || n > MaxNumber {
		return "", false
	}
	var out []byte
	for ; n > 127; n /= 128 {
		out = append(out, byte(n%128+128))
	}
	return string(append(out, byte(n))), true
}

func ReadVar(text string, at int) (int, int, bool) {
	if at < 0 || at > len(text) {
		return 0, 0, false
	}
	n := 0
	for i := range min(len(text)-at, maxVarBytes) {
		b := int(text[at+i])
		n += (b % 128) << (7 * i)
		if b > 127 {
			continue
		}
		// A last byte 0 behind others adds nothing: the number has a shorter form.
		if b == 0 && i > 0 || n > MaxNumber {
			break
		}
		return n, at + i + 1, true
	}
	return 0, 0, false
}

func ShortText(s string) (string, bool) {
	if len(s) > MaxText {
		return "", false
	}
	size, ok := VarText(len(s))
	return size + s, ok
}

func ReadShort(text string, at int) (string, int, bool) {
	size, begin, ok := ReadVar(text, at)
	if !ok || size > MaxText || size > len(text)-begin {
		return "", 0, false
	}
	end := begin + size
	return strings.Clone(text[begin:end]), end, true
}

func Hex(text string) (string, bool) {
	if len(text) > MaxText {
		return "", false
	}
	out := make([]byte, 0, 2*len(text))
	for i := range len(text) {
		out = append(out, figures[text[i]/16], figures[text[i]%16])
	}
	return string(out), true
}

func Unhex(text string) (string, bool) {
	if len(text)%2 != 0 || len(text) > 2*MaxText {
		return "", false
	}
	halves, ok := figuresOf(text, 16)
	if !ok {
		return "", false
	}
	out := make([]byte, 0, len(halves)/2)
	for i := 0; i < len(halves); i += 2 {
		out = append(out, byte(16*halves[i]+halves[i+1]))
	}
	return string(out), true
}

func Decimal(n int) string {
	return strconv.Itoa(n)
}

func ReadDecimal(text string) (int, bool) {
	if text == "" || len(text) > maxFigures || len(text) > 1 && text[0] == '0' {
		return 0, false
	}
	values, ok := figuresOf(text, 10)
	if !ok {
		return 0, false
	}
	n := 0
	for _, value := range values {
		n = 10*n + value
	}
	if n > MaxNumber {
		return 0, false
	}
	return n, true
}

// figuresOf answers what each byte of text counts as a figure to this base; false when one of them is none.
func figuresOf(text string, base int) ([]int, bool) {
	values := make([]int, 0, len(text))
eachByte:
	for i := range len(text) {
		for value := range base {
			if figures[value] == text[i] {
				values = append(values, value)
				continue eachByte
			}
		}
		return nil, false
	}
	return values, true
}

func PartsOf(line string) ([]string, bool) {
	if len(line) > MaxWords || !isPlain(line) {
		return []string{}, false
	}
	// The parts are cut from a copy, so that none of them lies in the argument's memory.
	parts := strings.Fields(strings.Clone(line))
	if len(parts) > MaxParts {
		return []string{}, false
	}
	return parts, true
}

// isPlain keeps out of a line all white space but the blank, so that strings.Fields cuts at blanks alone.
func isPlain(line string) bool {
	for i := range len(line) {
		if line[i] < 32 || line[i] > 126 {
			return false
		}
	}
	return true
}
