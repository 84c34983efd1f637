package tests

import (
	"math"
	"slices"
	"strconv"
	"strings"
	"testing"
	"unsafe"

	"loop.example/g00284/impl"
)

// someNumbers are ordinary ones, and both sides of every power of two within the limit.
func someNumbers() []int {
	list := []int{0, 1, 5, 77, 126, 127, 128, 129, 300, 9999, 16383, 16384, impl.MaxNumber - 1, impl.MaxNumber}
	for p := 1; p < impl.MaxNumber; p *= 2 {
		list = append(list, p-1, p, p+1)
	}
	for n := 3; n < impl.MaxNumber; n = 7*n + 2 {
		list = append(list, n)
	}
	return list
}

// allBytes is a text that has every byte once.
func allBytes() string {
	var b []byte
	for i := range 256 {
		b = append(b, byte(i))
	}
	return string(b)
}

func TestWordsLimits(t *testing.T) {
	if impl.MaxText != 20000 || impl.MaxNumber != 1000000000 || impl.MaxWords != 600 || impl.MaxParts != 10 {
		t.Error("a limit is not the document's")
	}
}

func TestVarTextBytes(t *testing.T) {
	for _, c := range []struct {
		n    int
		want string
	}{
		{0, "\x00"},
		{1, "\x01"},
		{127, "\x7f"},
		{128, "\x80\x01"},
		{255, "\xff\x01"},
		{300, "\xac\x02"},
		{16383, "\xff\x7f"},
		{16384, "\x80\x80\x01"},
		{impl.MaxNumber, "\x80\x94\xeb\xdc\x03"},
	} {
		if s, ok := impl.VarText(c.n); !ok || s != c.want {
			t.Errorf("VarText(%d) = %q, %v; want %q", c.n, s, ok, c.want)
		}
	}
}

func TestVarTextRefuses(t *testing.T) {
	for _, n := range []int{-1, -128, math.MinInt, impl.MaxNumber + 1, 1 << 40, math.MaxInt} {
		if s, ok := impl.VarText(n); ok || s != "" {
			t.Errorf("VarText(%d) = %q, %v; want nothing, false", n, s, ok)
		}
	}
}

func TestVarTextIsReadBack(t *testing.T) {
	for _, n := range someNumbers() {
		s, ok := impl.VarText(n)
		if !ok {
			t.Fatalf("VarText(%d) is false", n)
		}
		for _, ahead := range []string{"", "\x00", "\xff\xff", "some text"} {
			for _, behind := range []string{"", "\x00", "\x80", "\xff\x01", "more"} {
				got, end, ok := impl.ReadVar(ahead+s+behind, len(ahead))
				if !ok || got != n || end != len(ahead)+len(s) {
					t.Errorf("ReadVar of %d between %q and %q = %d, %d, %v", n, ahead, behind, got, end, ok)
				}
			}
		}
	}
}

// refusesVar wants ReadVar to be false with zero values beside it.
func refusesVar(t *testing.T, text string, at int) {
	t.Helper()
	if n, end, ok := impl.ReadVar(text, at); ok || n != 0 || end != 0 {
		t.Errorf("ReadVar(%q, %d) = %d, %d, %v; want 0, 0, false", text, at, n, end, ok)
	}
}

func TestReadVarRefusesLongerForms(t *testing.T) {
	for _, s := range []string{"\x80\x00", "\x81\x00", "\xff\x00", "\xac\x82\x00", "\x80\x80\x00", "\xff\xff\xff\x00", "\x80\x80\x80\x80\x00", "\x80\x80\x80\x80\x80\x00"} {
		refusesVar(t, s, 0)
		refusesVar(t, "ahead"+s+"behind", 5)
	}
	for _, n := range someNumbers() {
		s, _ := impl.VarText(n)
		longer := s[:len(s)-1] + string([]byte{s[len(s)-1] + 128, 0})
		refusesVar(t, longer, 0)
	}
}

func TestReadVarRefusesWhatIsPastMaxNumber(t *testing.T) {
	for _, s := range []string{
		"\x81\x94\xeb\xdc\x03", // MaxNumber and 1
		"\xff\xff\xff\xff\x03",
		"\x80\x80\x80\x80\x04",
		"\xff\xff\xff\xff\x7f",
		"\x80\x80\x80\x80\x80\x01",
		"\x80\x80\x80\x80\x80\x80\x80\x80\x80\x01",
		"\x80\x80\x80\x80\x80\x80\x80\x80\x80\x80\x01",
		strings.Repeat("\xff", 100) + "\x01",
		strings.Repeat("\x80", 100) + "\x00",
	} {
		refusesVar(t, s, 0)
	}
}

func TestReadVarRefusesWhatIsCutShort(t *testing.T) {
	for _, n := range someNumbers() {
		s, _ := impl.VarText(n)
		for cut := range len(s) {
			refusesVar(t, s[:cut], 0)
			refusesVar(t, "ahead"+s[:cut], 5)
		}
	}
	refusesVar(t, strings.Repeat("\x80", 300), 0)
}

func TestReadVarRefusesPlaces(t *testing.T) {
	for _, text := range []string{"", "\x05", "\x00\xac\x02"} {
		for _, at := range []int{-1, -3, math.MinInt, len(text), len(text) + 1, len(text) + 9, math.MaxInt} {
			refusesVar(t, text, at)
		}
	}
}

// Every text of two bytes has either the VarText of one number at its beginning, or none.
func TestReadVarOfAllTwoBytes(t *testing.T) {
	want := map[string]int{}
	for n := range 128 * 128 {
		s, _ := impl.VarText(n)
		want[s] = n
	}
	for a := range 256 {
		for b := range 256 {
			text := string([]byte{byte(a), byte(b)})
			n, one := want[text[:1]]
			end := 1
			if !one {
				n, one = want[text]
				end = 2
			}
			if !one {
				refusesVar(t, text, 0)
				continue
			}
			if got, at, ok := impl.ReadVar(text, 0); !ok || got != n || at != end {
				t.Errorf("ReadVar(%q, 0) = %d, %d, %v; want %d, %d", text, got, at, ok, n, end)
			}
		}
	}
}

func TestShortTextBytes(t *testing.T) {
	long := strings.Repeat("x", 128)
	for _, c := range []struct{ s, want string }{
		{"", "\x00"},
		{"abc", "\x03abc"},
		{"\x00\xff", "\x02\x00\xff"},
		{long[:127], "\x7f" + long[:127]},
		{long, "\x80\x01" + long},
	} {
		if got, ok := impl.ShortText(c.s); !ok || got != c.want {
			t.Errorf("ShortText(%q) = %q, %v; want %q", c.s, got, ok, c.want)
		}
	}
}

func TestShortTextIsReadBack(t *testing.T) {
	for _, s := range []string{"", "a", "abc", "\x00", "\x80", allBytes(), strings.Repeat("y", 127), strings.Repeat("z", 128), strings.Repeat("w", impl.MaxText-1), strings.Repeat("v", impl.MaxText)} {
		short, ok := impl.ShortText(s)
		if !ok {
			t.Fatalf("ShortText of %d bytes is false", len(s))
		}
		for _, ahead := range []string{"", "\x80", "ahead"} {
			for _, behind := range []string{"", "\x00", "behind"} {
				got, end, ok := impl.ReadShort(ahead+short+behind, len(ahead))
				if !ok || got != s || end != len(ahead)+len(short) {
					t.Errorf("ReadShort of %d bytes between %q and %q: %d bytes, %d, %v", len(s), ahead, behind, len(got), end, ok)
				}
			}
		}
	}
}

func TestShortTextRefuses(t *testing.T) {
	for _, size := range []int{impl.MaxText + 1, 2 * impl.MaxText} {
		if s, ok := impl.ShortText(strings.Repeat("x", size)); ok || s != "" {
			t.Errorf("ShortText of %d bytes: %d bytes, %v", size, len(s), ok)
		}
	}
}

// refusesShort wants ReadShort to be false with zero values beside it.
func refusesShort(t *testing.T, text string, at int) {
	t.Helper()
	if s, end, ok := impl.ReadShort(text, at); ok || s != "" || end != 0 {
		t.Errorf("ReadShort(%.20q, %d) = %.20q, %d, %v; want nothing", text, at, s, end, ok)
	}
}

func TestReadShortRefuses(t *testing.T) {
	over, _ := impl.VarText(impl.MaxText + 1)
	most, _ := impl.VarText(impl.MaxNumber)
	for _, text := range []string{"", "\x01", "\x03ab", "\x80\x01" + strings.Repeat("x", 127), "\x80\x00", "\x83\x00abc", "\x80", over + strings.Repeat("x", impl.MaxText+1), over, most + "abc", strings.Repeat("\xff", 50)} {
		refusesShort(t, text, 0)
		refusesShort(t, "ahead"+text, 5)
	}
	for _, at := range []int{-1, math.MinInt, 4, 5, math.MaxInt} {
		refusesShort(t, "\x03abc", at)
	}
}

func TestHexFigures(t *testing.T) {
	for _, c := range []struct{ text, want string }{
		{"", ""},
		{"\x00", "00"},
		{"\x0a\xa0\xff\x1f", "0aa0ff1f"},
		{"Az", "417a"},
	} {
		if got, ok := impl.Hex(c.text); !ok || got != c.want {
			t.Errorf("Hex(%q) = %q, %v; want %q", c.text, got, ok, c.want)
		}
	}
	if got, ok := impl.Hex(strings.Repeat("x", impl.MaxText+1)); ok || got != "" {
		t.Errorf("Hex of MaxText and 1: %d bytes, %v", len(got), ok)
	}
}

func TestHexIsReadBack(t *testing.T) {
	for _, text := range []string{"", "a", "abc", allBytes(), strings.Repeat("\x9c", impl.MaxText-1), strings.Repeat("\xe7", impl.MaxText)} {
		hex, ok := impl.Hex(text)
		if !ok || len(hex) != 2*len(text) {
			t.Fatalf("Hex of %d bytes: %d bytes, %v", len(text), len(hex), ok)
		}
		if back, ok := impl.Unhex(hex); !ok || back != text {
			t.Errorf("Unhex of Hex of %d bytes: %d bytes, %v", len(text), len(back), ok)
		}
	}
}

// refusesUnhex wants Unhex to be false with nothing beside it.
func refusesUnhex(t *testing.T, text string) {
	t.Helper()
	if s, ok := impl.Unhex(text); ok || s != "" {
		t.Errorf("Unhex(%.20q) = %.20q, %v; want nothing", text, s, ok)
	}
}

func TestUnhexRefuses(t *testing.T) {
	for _, text := range []string{"0", "abc", "A0", "0A", "fF", "0g", "g0", " 0", "0 ", "0x", "+1", "-1", "00\n", "\x000", "éé", "ab c", "00zz", "zz00"} {
		refusesUnhex(t, text)
	}
	refusesUnhex(t, strings.Repeat("0", 2*impl.MaxText+1))
	refusesUnhex(t, strings.Repeat("0", 2*impl.MaxText+2))
}

// Every text of two bytes is Hex of one byte or of none.
func TestUnhexOfAllTwoBytes(t *testing.T) {
	want := map[string]string{}
	for b := range 256 {
		s := string([]byte{byte(b)})
		hex, _ := impl.Hex(s)
		want[hex] = s
	}
	for a := range 256 {
		for b := range 256 {
			text := string([]byte{byte(a), byte(b)})
			s, one := want[text]
			if !one {
				refusesUnhex(t, text)
			} else if got, ok := impl.Unhex(text); !ok || got != s {
				t.Errorf("Unhex(%q) = %q, %v; want %q", text, got, ok, s)
			}
		}
	}
}

func TestDecimalOfEveryKind(t *testing.T) {
	for _, c := range []struct {
		n    int
		want string
	}{
		{0, "0"}, {1, "1"}, {9, "9"}, {10, "10"}, {100, "100"}, {205, "205"}, {-1, "-1"}, {-5, "-5"}, {-10, "-10"}, {-100, "-100"},
		{impl.MaxNumber, "1000000000"},
		{impl.MaxNumber + 1, "1000000001"},
		{-impl.MaxNumber, "-1000000000"},
		{math.MaxInt32, "2147483647"},
		{math.MinInt32, "-2147483648"},
		{math.MaxInt, "9223372036854775807"},
		{math.MinInt, "-9223372036854775808"},
		{math.MinInt + 1, "-9223372036854775807"},
	} {
		if got := impl.Decimal(c.n); got != c.want {
			t.Errorf("Decimal(%d) = %q", c.n, got)
		}
	}
}

func TestDecimalIsReadBack(t *testing.T) {
	for _, n := range someNumbers() {
		if got, ok := impl.ReadDecimal(impl.Decimal(n)); !ok || got != n {
			t.Errorf("ReadDecimal of Decimal(%d) = %d, %v", n, got, ok)
		}
	}
}

// refusesDecimal wants ReadDecimal to be false with 0 beside it.
func refusesDecimal(t *testing.T, text string) {
	t.Helper()
	if n, ok := impl.ReadDecimal(text); ok || n != 0 {
		t.Errorf("ReadDecimal(%.30q) = %d, %v; want 0, false", text, n, ok)
	}
}

func TestReadDecimalRefuses(t *testing.T) {
	for _, text := range []string{
		"", "-", "+", "00", "01", "007", "0000000000", "0000000001", "00000000000", "-0", "-1", "+0", "+1", " 1", "1 ", "1\n", "1.0", "1e3", "1_000", "0x1", "a", "1a", "a1", "12:", "12/", "\x00", "1\x00", "١",
		"1000000001", "1000000010", "2000000000", "9999999999", "10000000000", "-1000000000",
		"9223372036854775807", "9223372036854775808", "18446744073709551616", "18446744073709551617", "-9223372036854775808",
		"01000000000", strings.Repeat("9", 1000), strings.Repeat("0", 1000), strings.Repeat("1", 25000),
	} {
		refusesDecimal(t, text)
	}
}

// Every text of up to three of these bytes is read just when it is what Decimal writes.
func TestReadDecimalOfShortTexts(t *testing.T) {
	want := map[string]int{}
	for n := range 1000 {
		want[strconv.Itoa(n)] = n
	}
	bytes := "0123456789+- ./:a"
	texts := []string{""}
	for at := 0; at < len(texts) && len(texts[at]) < 3; at++ {
		for i := range len(bytes) {
			texts = append(texts, texts[at]+bytes[i:i+1])
		}
	}
	for _, text := range texts {
		n, one := want[text]
		if !one {
			refusesDecimal(t, text)
		} else if got, ok := impl.ReadDecimal(text); !ok || got != n {
			t.Errorf("ReadDecimal(%q) = %d, %v", text, got, ok)
		}
	}
}

// hasParts wants these parts of the line.
func hasParts(t *testing.T, line string, want []string) {
	t.Helper()
	if got, ok := impl.PartsOf(line); !ok || !slices.Equal(got, want) {
		t.Errorf("PartsOf(%.40q) = %.40q, %v; want %.40q", line, got, ok, want)
	}
}

// refusesParts wants PartsOf to be false with no parts beside it.
func refusesParts(t *testing.T, line string) {
	t.Helper()
	if got, ok := impl.PartsOf(line); ok || len(got) != 0 {
		t.Errorf("PartsOf(%.40q) = %.40q, %v; want none", line, got, ok)
	}
}

func TestPartsOfLines(t *testing.T) {
	hasParts(t, "", nil)
	hasParts(t, " ", nil)
	hasParts(t, "      ", nil)
	hasParts(t, "a b", []string{"a", "b"})
	hasParts(t, "  ab", []string{"ab"})
	hasParts(t, "one", []string{"one"})
	hasParts(t, " one", []string{"one"})
	hasParts(t, "one  ", []string{"one"})
	hasParts(t, "take 1 2 a@b.c -", []string{"take", "1", "2", "a@b.c", "-"})
	hasParts(t, "  tick   1  2 ", []string{"tick", "1", "2"})
	hasParts(t, "b a b a", []string{"b", "a", "b", "a"})
	hasParts(t, "#! ~ \"'", []string{"#!", "~", "\"'"})
}

func TestPartsOfLimits(t *testing.T) {
	ten := []string{"1", "2", "3", "4", "5", "6", "7", "8", "9", "10"}
	hasParts(t, strings.Join(ten, " "), ten)
	hasParts(t, "  "+strings.Join(ten, "   ")+"  ", ten)
	refusesParts(t, strings.Join(ten, " ")+" 11")
	refusesParts(t, "  "+strings.Join(ten, "  ")+"  11 12 ")
	refusesParts(t, strings.Repeat("a ", impl.MaxWords/2))

	full := strings.Repeat("x", impl.MaxWords)
	hasParts(t, full, []string{full})
	refusesParts(t, full+"x")
	refusesParts(t, full+" ")
	refusesParts(t, " "+full)
	hasParts(t, strings.Repeat(" ", impl.MaxWords), nil)
	refusesParts(t, strings.Repeat(" ", impl.MaxWords+1))
	hasParts(t, "a"+strings.Repeat(" ", impl.MaxWords-2)+"b", []string{"a", "b"})
	refusesParts(t, "a"+strings.Repeat(" ", impl.MaxWords-1)+"b")
}

func TestPartsOfEveryByte(t *testing.T) {
	for b := range 256 {
		s := string([]byte{byte(b)})
		if s == " " { // not of a part: TestPartsOfLines has its blanks
			continue
		}
		for _, line := range []string{s, "a" + s + "b", s + " ab", "ab " + s} {
			if b < 32 || b > 126 {
				refusesParts(t, line)
			} else {
				hasParts(t, line, strings.Split(line, " "))
			}
		}
	}
	refusesParts(t, "a\u00a0b")
	refusesParts(t, "a\u2003b")
	refusesParts(t, strings.Repeat(" ", impl.MaxWords-1)+"\x7f")
}

// sharesMemory tells whether a lies in the memory of b.
func sharesMemory(a, b string) bool {
	if a == "" || b == "" {
		return false
	}
	begin, inside := uintptr(unsafe.Pointer(unsafe.StringData(b))), uintptr(unsafe.Pointer(unsafe.StringData(a)))
	return inside >= begin && inside < begin+uintptr(len(b))
}

func TestWordsAnswerNewMemory(t *testing.T) {
	text := strings.Repeat("\x03abc", 2)
	if s, _, ok := impl.ReadShort(text, 4); !ok || sharesMemory(s, text) {
		t.Error("ReadShort hands its argument's memory on")
	}
	line := strings.Repeat("word ", 2)
	parts, _ := impl.PartsOf(line)
	for i, p := range parts {
		if sharesMemory(p, line) {
			t.Error("PartsOf hands its argument's memory on")
		}
		parts[i] = "other"
	}
	hasParts(t, line, []string{"word", "word"})
}
