package tests

import (
	"crypto/sha256"
	"encoding/hex"
	"math"
	"slices"
	"strings"
	"testing"

	"loop.example/g00284/impl"
)

// edgeSizes are lengths around those at which a text just fills a block, or leaves no room in it for the mark and the length.
func edgeSizes() []int {
	return []int{0, 1, 2, 54, 55, 56, 57, 62, 63, 64, 65, 66, 118, 119, 120, 121, 127, 128, 129, 183, 184, 191, 192, 193, 255, 256, 257}
}

// padByWords does what the chapter says, byte by byte.
func padByWords(text string) string {
	out := text + "\x80"
	for (len(out)+8)%64 != 0 {
		out += "\x00"
	}
	count := len(text) * 8
	eight := ""
	for range 8 {
		eight = string([]byte{byte(count % 256)}) + eight
		count /= 256
	}
	return out + eight
}

// numbersOf are the numbers that stand in the text, four bytes each, the highest first.
func numbersOf(text string) []int {
	list := []int{}
	for at := 0; at+4 <= len(text); at += 4 {
		n := 0
		for i := range 4 {
			n = n*256 + int(text[at+i])
		}
		list = append(list, n)
	}
	return list
}

// bytesOf writes each number in four bytes, the highest first.
func bytesOf(list []int) string {
	b := []byte{}
	for _, n := range list {
		b = append(b, byte(n/16777216%256), byte(n/65536%256), byte(n/256%256), byte(n%256))
	}
	return string(b)
}

// firstNumbers are those with which SHA-256 begins, as they are known.
func firstNumbers() []int {
	return []int{1779033703, 3144134277, 1013904242, 2773480762, 1359893119, 2600822924, 528734635, 1541459225}
}

func TestDigestSizes(t *testing.T) {
	if impl.DigestSize != 32 || impl.BlockSize != 64 {
		t.Errorf("DigestSize %d, BlockSize %d", impl.DigestSize, impl.BlockSize)
	}
}

func TestDigestsThatAreKnown(t *testing.T) {
	for _, c := range []struct{ text, want string }{
		{"", "e3b0c44298fc1c149afbf4c8996fb92427ae41e4649b934ca495991b7852b855"},
		{"a", "ca978112ca1bbdcafac231b39a23dc4da786eff8147c4e72b9807785afee48bb"},
		{"abc", "ba7816bf8f01cfea414140de5dae2223b00361a396177a9cb410ff61f20015ad"},
		{"message digest", "f7846f55cf23e14eebeab5b4e1550cad5b509e3348fbc4efa3a1413d393cb650"},
		{"abcdbcdecdefdefgefghfghighijhijkijkljklmklmnlmnomnopnopq", "248d6a61d20638b8e5c026930c3e6039a33ce45964ff2167f6ecedd419db06c1"},
		{"abcdefghbcdefghicdefghijdefghijkefghijklfghijklmghijklmnhijklmnoijklmnopjklmnopqklmnopqrlmnopqrsmnopqrstnopqrstu", "cf5b16a778af8380036ce59e7b0492370b249b11e8f07a51afac45037afee9d1"},
		{strings.Repeat("a", 1000000), "cdc76e5c9914fb9281a1c7e284d73e67f1809a48a497200e046d39ccc7112cd0"},
	} {
		if got := hex.EncodeToString([]byte(impl.Digest(c.text))); got != c.want {
			t.Errorf("Digest of %d bytes %.20q = %s; want %s", len(c.text), c.text, got, c.want)
		}
		if got := impl.DigestHex(c.text); got != c.want {
			t.Errorf("DigestHex of %d bytes %.20q = %s; want %s", len(c.text), c.text, got, c.want)
		}
	}
}

// hasDigest wants Digest to be what the library says of the same text.
func hasDigest(t *testing.T, text string) {
	t.Helper()
	want := sha256.Sum256([]byte(text))
	if got := impl.Digest(text); got != string(want[:]) {
		t.Errorf("Digest of %d bytes %.20q = %x; want %x", len(text), text, got, want)
	}
}

func TestDigestOfEveryLength(t *testing.T) {
	long := turning(6 * 64)
	for size := range len(long) + 1 {
		hasDigest(t, long[:size])
		hasDigest(t, strings.Repeat("\x00", size))
		hasDigest(t, strings.Repeat("\xff", size))
	}
}

func TestDigestOfEveryByte(t *testing.T) {
	for b := range 256 {
		one := string([]byte{byte(b)})
		hasDigest(t, one)
		hasDigest(t, "name"+one)
		hasDigest(t, strings.Repeat(one, 64))
	}
	hasDigest(t, allBytes())
}

// A digest has no limit of length: texts past MaxText have theirs, too.
func TestDigestOfLongTexts(t *testing.T) {
	for _, size := range []int{impl.MaxText - 1, impl.MaxText, impl.MaxText + 1, 3*impl.MaxText + 7, 1 << 21} {
		hasDigest(t, turning(size))
	}
}

// A text whose number of bits takes more than one, two and three bytes.
func TestDigestOfLengthsOfMoreBytes(t *testing.T) {
	for _, size := range []int{31, 32, 33, 8191, 8192, 8193, 2097151, 2097152, 2097153} {
		hasDigest(t, strings.Repeat("b", size))
	}
}

func TestDigestIsShaBlockOfEachBlock(t *testing.T) {
	texts := []string{"", "abc", allBytes(), turning(5000), turning(impl.MaxText + 1)}
	for _, size := range edgeSizes() {
		texts = append(texts, turning(size))
	}
	for _, text := range texts {
		padded := impl.PadText(text)
		state := impl.ShaStart()
		for at := 0; at < len(padded); at += 64 {
			state = impl.ShaBlock(state, padded[at:at+64])
		}
		if got := impl.Digest(text); got != bytesOf(state) || len(got) != 32 {
			t.Errorf("Digest of %d bytes = %x; block by block %x", len(text), got, bytesOf(state))
		}
	}
}

func TestPadTextByWords(t *testing.T) {
	long := turning(8 * 64)
	for size := range len(long) + 1 {
		for _, text := range []string{long[:size], strings.Repeat("\x80", size), strings.Repeat("\x00", size)} {
			if got, want := impl.PadText(text), padByWords(text); got != want {
				t.Errorf("PadText of %d bytes: %d bytes %q; want %d bytes %q", size, len(got), got, len(want), want)
			}
		}
	}
}

func TestPadTextHasAllItsPieces(t *testing.T) {
	for size := range 200 {
		text := turning(size)
		padded := impl.PadText(text)
		if len(padded)%64 != 0 || len(padded) < size+9 || len(padded) > size+9+63 {
			t.Fatalf("PadText of %d bytes has %d", size, len(padded))
		}
		rest, begins := strings.CutPrefix(padded, text)
		if !begins || rest[0] != 128 {
			t.Errorf("PadText of %d bytes does not begin with the text and 128", size)
		}
		if middle := rest[1 : len(rest)-8]; strings.Trim(middle, "\x00") != "" {
			t.Errorf("PadText of %d bytes has %q in its midst", size, middle)
		}
		if end := numbersOf(rest[len(rest)-8:]); end[0] != 0 || end[1] != 8*size {
			t.Errorf("PadText of %d bytes says %v", size, end)
		}
	}
}

func TestPadTextAtTheEdges(t *testing.T) {
	for _, c := range []struct{ size, want int }{
		{0, 64}, {1, 64}, {54, 64}, {55, 64}, {56, 128}, {57, 128}, {63, 128}, {64, 128}, {65, 128},
		{118, 128}, {119, 128}, {120, 192}, {127, 192}, {128, 192}, {129, 192}, {183, 192}, {184, 256},
		{impl.MaxText, 20032}, {impl.MaxText + 1, 20032}, {1000000, 1000064},
	} {
		if got := len(impl.PadText(turning(c.size))); got != c.want {
			t.Errorf("PadText of %d bytes has %d; want %d", c.size, got, c.want)
		}
	}
	if got, want := impl.PadText(""), "\x80"+strings.Repeat("\x00", 63); got != want {
		t.Errorf("PadText of nothing = %q", got)
	}
	if got, want := impl.PadText("abc"), "abc\x80"+strings.Repeat("\x00", 59)+"\x18"; got != want {
		t.Errorf("PadText of abc = %q", got)
	}
	full := strings.Repeat("x", 64)
	if got, want := impl.PadText(full), full+"\x80"+strings.Repeat("\x00", 61)+"\x02\x00"; got != want {
		t.Errorf("PadText of a whole block = %q", got)
	}
	large := strings.Repeat("y", 2097152)
	if got, want := impl.PadText(large), large+"\x80"+strings.Repeat("\x00", 59)+"\x01\x00\x00\x00"; got != want {
		t.Errorf("PadText of %d bytes ends with %q", len(large), got[len(large):])
	}
}

func TestShaStartNumbers(t *testing.T) {
	if got := impl.ShaStart(); !slices.Equal(got, firstNumbers()) {
		t.Errorf("ShaStart = %v", got)
	}
}

func TestShaStartIsNewEachTime(t *testing.T) {
	one := impl.ShaStart()
	two := impl.ShaStart()
	for i := range one {
		one[i] = -1
	}
	if !slices.Equal(two, firstNumbers()) {
		t.Errorf("a change of one ShaStart reaches another: %v", two)
	}
	if !slices.Equal(impl.ShaStart(), firstNumbers()) {
		t.Error("a change of a ShaStart reaches the next")
	}
	hasDigest(t, "abc")
}

func TestShaBlockOfKnownBlocks(t *testing.T) {
	abc := impl.ShaBlock(firstNumbers(), padByWords("abc"))
	if want := []int{0xba7816bf, 0x8f01cfea, 0x414140de, 0x5dae2223, 0xb00361a3, 0x96177a9c, 0xb410ff61, 0xf20015ad}; !slices.Equal(abc, want) {
		t.Errorf("ShaBlock of abc = %x", abc)
	}
	two := padByWords("abcdbcdecdefdefgefghfghighijhijkijkljklmklmnlmnomnopnopq")
	half := impl.ShaBlock(firstNumbers(), two[:64])
	if want := []int{0x85e655d6, 0x417a1795, 0x3363376a, 0x624cde5c, 0x76e09589, 0xcac5f811, 0xcc4b32c1, 0xf20e533a}; !slices.Equal(half, want) {
		t.Errorf("ShaBlock of the first block = %x", half)
	}
	whole := impl.ShaBlock(half, two[64:])
	if want := []int{0x248d6a61, 0xd20638b8, 0xe5c02693, 0x0c3e6039, 0xa33ce459, 0x64ff2167, 0xf6ecedd4, 0x19db06c1}; !slices.Equal(whole, want) {
		t.Errorf("ShaBlock of the second block = %x", whole)
	}
}

// shaByWords is a block of SHA-256 as FIPS 180-4 writes it, in whole numbers and remainders alone; the roots' bits come from whole roots.
func shaByWords(state []int, block string) []int {
	turn := func(n, by int) int { return (n>>by | n<<(32-by)) % 4294967296 }
	words := numbersOf(block)
	for i := 16; i < 64; i++ {
		x, y := words[i-15], words[i-2]
		words = append(words, (words[i-16]+words[i-7]+(turn(x, 7)^turn(x, 18)^x>>3)+(turn(y, 17)^turn(y, 19)^y>>10))%4294967296)
	}
	v := slices.Clone(state)
	steps := cubeRoots()
	for i, word := range words {
		one := v[7] + (turn(v[4], 6) ^ turn(v[4], 11) ^ turn(v[4], 25)) + (v[4]&v[5] | (4294967295-v[4])&v[6]) + steps[i] + word
		two := (turn(v[0], 2) ^ turn(v[0], 13) ^ turn(v[0], 22)) + (v[0]&v[1] | v[0]&v[2] | v[1]&v[2])
		v = []int{(one + two) % 4294967296, v[0], v[1], v[2], (v[3] + one) % 4294967296, v[4], v[5], v[6]}
	}
	for i := range v {
		v[i] = (v[i] + state[i]) % 4294967296
	}
	return v
}

// cubeRoots are the first 32 bits behind the point of the cube roots of the first 64 primes.
func cubeRoots() []int {
	roots := []int{}
	for n := 2; len(roots) < 64; n++ {
		prime := true
		for d := 2; d*d <= n; d++ {
			prime = prime && n%d != 0
		}
		if prime {
			_, part := math.Modf(math.Cbrt(float64(n)))
			roots = append(roots, int(part*4294967296))
		}
	}
	return roots
}

func TestShaBlockOfManyStates(t *testing.T) {
	states := [][]int{
		firstNumbers(),
		{0, 0, 0, 0, 0, 0, 0, 0},
		{1, 2, 3, 4, 5, 6, 7, 8},
		slices.Repeat([]int{4294967295}, 8),
		slices.Repeat([]int{0x80000000}, 8),
	}
	for at := range 8 {
		one := make([]int, 8)
		one[at] = 4294967295
		states = append(states, one)
	}
	for size := 32; size < 200; size += 16 {
		states = append(states, numbersOf(turning(size)[size-32:]))
	}
	for _, state := range states {
		for _, block := range []string{strings.Repeat("\x00", 64), strings.Repeat("\xff", 64), turning(64), turning(900)[836:], padByWords("abc")} {
			if got, want := impl.ShaBlock(state, block), shaByWords(state, block); !slices.Equal(got, want) {
				t.Errorf("ShaBlock(%v, %.20q) = %v; want %v", state, block, got, want)
			}
		}
	}
}

// comesBack wants ShaBlock to answer the state as it is, in memory of its own.
func comesBack(t *testing.T, state []int, block string) {
	t.Helper()
	was := slices.Clone(state)
	got := impl.ShaBlock(state, block)
	if !slices.Equal(got, was) {
		t.Errorf("ShaBlock(%v, %d bytes) = %v", was, len(block), got)
	}
	for i := range got {
		got[i] = 77
	}
	got = append(got, 78)
	if !slices.Equal(state, was) {
		t.Errorf("a change of what ShaBlock answered reaches its argument: %v; it was %v", state, was)
	}
}

func TestShaBlockOfStatesThatAreNone(t *testing.T) {
	block := turning(64)
	comesBack(t, nil, block)
	comesBack(t, []int{}, block)
	comesBack(t, []int{5}, block)
	comesBack(t, firstNumbers()[:7], block)
	comesBack(t, append(firstNumbers(), 0), block)
	comesBack(t, slices.Repeat([]int{3}, 16), block)
	for at := range 8 {
		for _, n := range []int{-1, -4294967296, 4294967296, 4294967297, 1 << 40, math.MaxInt, math.MinInt} {
			state := firstNumbers()
			state[at] = n
			comesBack(t, state, block)
		}
	}
}

func TestShaBlockOfTheGreatestNumber(t *testing.T) {
	block := turning(64)
	for at := range 8 {
		for _, n := range []int{0, 4294967295} {
			state := firstNumbers()
			state[at] = n
			if got, want := impl.ShaBlock(state, block), shaByWords(state, block); !slices.Equal(got, want) {
				t.Errorf("ShaBlock(%v) = %v; want %v", state, got, want)
			}
		}
	}
}

func TestShaBlockOfBlocksThatAreNone(t *testing.T) {
	for _, size := range []int{0, 1, 32, 63, 65, 127, 128, 192, impl.MaxText + 1} {
		comesBack(t, firstNumbers(), turning(size))
		comesBack(t, []int{1, 2, 3}, turning(size))
		comesBack(t, nil, turning(size))
		comesBack(t, []int{-1, 1, 2, 3, 4, 5, 6, 1 << 33}, turning(size))
	}
}

// The state may be the beginning of a longer list, whose spare room is somebody else's.
func TestShaBlockWritesIntoNoArgument(t *testing.T) {
	for _, size := range []int{0, 7, 8, 9} {
		for _, block := range []string{turning(64), turning(63)} {
			room := slices.Repeat([]int{9}, 20)
			got := impl.ShaBlock(room[:size], block)
			for i := range got {
				got[i] = -5
			}
			got = append(got, -6, -7)
			if !slices.Equal(room, slices.Repeat([]int{9}, 20)) {
				t.Errorf("ShaBlock of %d numbers and %d bytes wrote into %v", size, len(block), room)
			}
		}
	}
}

func TestDigestHexIsHexOfDigest(t *testing.T) {
	for _, size := range append(edgeSizes(), impl.MaxText, impl.MaxText+1, 3*impl.MaxText) {
		text := turning(size)
		want, ok := impl.Hex(impl.Digest(text))
		if got := impl.DigestHex(text); !ok || got != want || len(got) != 64 {
			t.Errorf("DigestHex of %d bytes = %q; want %q", size, got, want)
		}
	}
}

func TestCutDigestOfEveryWidth(t *testing.T) {
	for _, text := range []string{"", "abc", turning(64), turning(impl.MaxText + 1)} {
		whole := sha256.Sum256([]byte(text))
		for w := 1; w <= 32; w++ {
			if got := impl.CutDigest(text, w); got != string(whole[:w]) {
				t.Errorf("CutDigest(%.20q, %d) = %x; want %x", text, w, got, whole[:w])
			}
		}
	}
}

func TestCutDigestRefusesWidths(t *testing.T) {
	for _, text := range []string{"", "abc", turning(64)} {
		for _, w := range []int{0, -1, -32, 33, 34, 64, 256 + 8, 1<<32 + 1, math.MaxInt, math.MinInt} {
			if got := impl.CutDigest(text, w); got != "" {
				t.Errorf("CutDigest(%.20q, %d) = %x; want nothing", text, w, got)
			}
		}
	}
}

func TestDigestsAnswerNewMemory(t *testing.T) {
	for _, size := range edgeSizes() {
		text := strings.Clone(turning(size))
		if sharesMemory(impl.PadText(text), text) {
			t.Errorf("PadText of %d bytes hands its argument's memory on", size)
		}
	}
}
