package tests

import (
	"math"
	"strings"
	"testing"

	"loop.example/g00284/impl"
)

// sumByWords does what the chapter says, bit by bit.
func sumByWords(sum uint32, text string) uint32 {
	for i := range len(text) {
		sum ^= uint32(text[i])
		for range 8 {
			odd := sum%2 == 1
			sum /= 2
			if odd {
				sum ^= 3558460437
			}
		}
	}
	return sum
}

// someSums are the ends, every single bit, and ordinary ones.
func someSums() []uint32 {
	list := []uint32{0, 1, 2, 15, 16, 255, 256, 3558460437, 0x80000000, 0x7fffffff, 0x12345678, math.MaxUint32 - 1, math.MaxUint32}
	for bit := range 32 {
		list = append(list, 1<<bit)
	}
	for s := uint32(7); len(list) < 100; s = s*2654435761 + 11 {
		list = append(list, s)
	}
	return list
}

// turning is a text of this size that has no short period.
func turning(size int) string {
	b := make([]byte, size)
	for i := range b {
		b[i] = byte(i*i/7 + i)
	}
	return string(b)
}

// turned is the text with another byte at a place.
func turned(text string, at int, by byte) string {
	return text[:at] + string([]byte{text[at] ^ by}) + text[at+1:]
}

func TestSumsThatAreKnown(t *testing.T) {
	for _, c := range []struct {
		sum  uint32
		text string
		want uint32
	}{
		{0, "\x80", 3558460437},
		{0, "", 0},
		{0, "\x00", 0},
		{1, "", 1},
		{math.MaxUint32, "", math.MaxUint32},
		{0x80, "\x00", 3558460437},
		{0x80, "\x80", 0},
		{256, "\x00", 1},
		{0xabcdef00, "\x00", 0x00abcdef},
	} {
		if got := impl.SumMore(c.sum, c.text); got != c.want {
			t.Errorf("SumMore(%d, %q) = %d; want %d", c.sum, c.text, got, c.want)
		}
	}
	if got := impl.SumOf(""); got != 4294967295 {
		t.Errorf("SumOf of nothing = %d", got)
	}
}

func TestSumMoreBitByBit(t *testing.T) {
	for _, sum := range someSums() {
		for b := range 256 {
			text := string([]byte{byte(b)})
			if got, want := impl.SumMore(sum, text), sumByWords(sum, text); got != want {
				t.Fatalf("SumMore(%d, %q) = %d; want %d", sum, text, got, want)
			}
		}
		for _, text := range []string{"", "abc", "cba", "\x00\x00\x00", "\xff\xff\xff\xff\xff", allBytes(), turning(1000)} {
			if got, want := impl.SumMore(sum, text), sumByWords(sum, text); got != want {
				t.Errorf("SumMore(%d, %.20q) = %d; want %d", sum, text, got, want)
			}
		}
	}
	for b := range 256 {
		text := string([]byte{byte(b)})
		if got, want := impl.SumOf(text), sumByWords(4294967295, text); got != want {
			t.Errorf("SumOf(%q) = %d; want %d", text, got, want)
		}
	}
}

func TestSumMoreOfNothing(t *testing.T) {
	for _, sum := range someSums() {
		if got := impl.SumMore(sum, ""); got != sum {
			t.Errorf("SumMore(%d, nothing) = %d", sum, got)
		}
	}
}

// A sum has no limit of length: texts past MaxText have theirs, too.
func TestSumOfLongTexts(t *testing.T) {
	for _, size := range []int{impl.MaxText, impl.MaxText + 1, 3*impl.MaxText + 7} {
		text := turning(size)
		if got, want := impl.SumOf(text), sumByWords(4294967295, text); got != want {
			t.Errorf("SumOf %d bytes = %d; want %d", size, got, want)
		}
	}
}

func TestSumMoreGoesOnWhereSumOfStopped(t *testing.T) {
	for _, text := range []string{"", "a", "ab", "\x00\x00\x00\x00\x00", allBytes(), turning(700)} {
		whole := impl.SumOf(text)
		for cut := range len(text) + 1 {
			if got := impl.SumMore(impl.SumOf(text[:cut]), text[cut:]); got != whole {
				t.Fatalf("%.20q cut at %d: %d; want %d", text, cut, got, whole)
			}
		}
		for _, sum := range someSums() {
			middle := len(text) / 3
			if got, want := impl.SumMore(impl.SumMore(sum, text[:middle]), text[middle:]), impl.SumMore(sum, text); got != want {
				t.Fatalf("%.20q from %d on, cut at %d: %d; want %d", text, sum, middle, got, want)
			}
		}
	}
}

// textsToSeal are within the limit, of all kinds of lengths.
func textsToSeal() []string {
	return []string{"", "a", "abc", "\x00", "\xff", "\xff\xff\xff\xff", "\x00\x00\x00\x00", allBytes(), turning(5000), turning(impl.MaxText - 1), turning(impl.MaxText)}
}

func TestSealedHasTheSumBehind(t *testing.T) {
	if s, ok := impl.Sealed(""); !ok || s != "\xff\xff\xff\xff" {
		t.Errorf("Sealed of nothing = %q, %v", s, ok)
	}
	for _, text := range textsToSeal() {
		sum := sumByWords(4294967295, text)
		want := text + string([]byte{byte(sum >> 24), byte(sum >> 16 & 255), byte(sum >> 8 & 255), byte(sum & 255)})
		if s, ok := impl.Sealed(text); !ok || s != want {
			t.Errorf("Sealed of %d bytes: %d bytes, %v", len(text), len(s), ok)
		}
	}
}

func TestSealedIsUnsealed(t *testing.T) {
	for _, text := range textsToSeal() {
		s, ok := impl.Sealed(text)
		if !ok {
			t.Fatalf("Sealed of %d bytes is false", len(text))
		}
		if u, ok := impl.Unsealed(s); !ok || u != text {
			t.Errorf("Unsealed of Sealed of %d bytes: %d bytes, %v", len(text), len(u), ok)
		}
	}
}

func TestSealedRefuses(t *testing.T) {
	for _, size := range []int{impl.MaxText + 1, impl.MaxText + 4, 2 * impl.MaxText} {
		if s, ok := impl.Sealed(turning(size)); ok || s != "" {
			t.Errorf("Sealed of %d bytes: %d bytes, %v", size, len(s), ok)
		}
	}
}

// refusesUnsealed wants Unsealed to be false with nothing beside it.
func refusesUnsealed(t *testing.T, text string) {
	t.Helper()
	if s, ok := impl.Unsealed(text); ok || s != "" {
		t.Errorf("Unsealed of %d bytes %.20q = %.20q, %v; want nothing", len(text), text, s, ok)
	}
}

func TestOneByteTurnedIsNotUnsealed(t *testing.T) {
	for _, text := range []string{"", "a", "abc", "\x00\x00\x00\x00\x00", allBytes()} {
		s, _ := impl.Sealed(text)
		for at := range len(s) {
			for by := 1; by < 256; by++ {
				refusesUnsealed(t, turned(s, at, byte(by)))
			}
		}
	}
	long, _ := impl.Sealed(turning(impl.MaxText))
	for _, at := range []int{0, 1, 9999, impl.MaxText - 1, impl.MaxText, impl.MaxText + 3} {
		for _, by := range []byte{1, 16, 128, 255} {
			refusesUnsealed(t, turned(long, at, by))
		}
	}
}

func TestUnsealedRefusesWhatIsTooShort(t *testing.T) {
	for _, text := range []string{"", "\xff", "\xff\xff", "\xff\xff\xff", "a", "ab", "abc", "\x00\x00\x00"} {
		refusesUnsealed(t, text)
	}
	for _, text := range []string{"\x00\x00\x00\x00", "abcd", "\xff\xff\xff\xfe", "\x7f\xff\xff\xff"} {
		refusesUnsealed(t, text)
	}
}

func TestUnsealedRefusesTheOtherOrder(t *testing.T) {
	for _, text := range []string{"a", "abc", allBytes(), turning(300)} {
		s, _ := impl.Sealed(text)
		n := len(text)
		refusesUnsealed(t, text+string([]byte{s[n+3], s[n+2], s[n+1], s[n]}))
		refusesUnsealed(t, s[n:]+text)
	}
}

func TestUnsealedRefusesAByteMoreOrLess(t *testing.T) {
	for _, text := range []string{"", "a", "abc", allBytes(), turning(impl.MaxText)} {
		s, _ := impl.Sealed(text)
		refusesUnsealed(t, s[1:])
		refusesUnsealed(t, s[:len(s)-1])
		for _, b := range []string{"\x00", "a", "\xff"} {
			refusesUnsealed(t, s+b)
			refusesUnsealed(t, b+s)
		}
	}
}

func TestUnsealedRefusesWhatNoSealedWrites(t *testing.T) {
	for _, size := range []int{impl.MaxText + 1, impl.MaxText + 2, 2 * impl.MaxText} {
		text := turning(size)
		sum := sumByWords(4294967295, text)
		refusesUnsealed(t, text+string([]byte{byte(sum >> 24), byte(sum >> 16), byte(sum >> 8), byte(sum)}))
	}
}

func TestSumsAnswerNewMemory(t *testing.T) {
	text := strings.Repeat("abc", 3)
	s, _ := impl.Sealed(text)
	if sharesMemory(s, text) {
		t.Error("Sealed hands its argument's memory on")
	}
	if u, ok := impl.Unsealed(s); !ok || sharesMemory(u, s) {
		t.Error("Unsealed hands its argument's memory on")
	}
}
