package tests

import (
	"crypto/sha256"
	"math"
	"slices"
	"strings"
	"testing"

	"loop.example/g00284/impl"
)

// keyByWords is a TagHash that is KeyWide wide, by the words of chapters 3 and 4.
func keyByWords(kind int, parts ...string) string {
	for _, part := range parts {
		if len(part) > 200 {
			return ""
		}
	}
	whole := sha256.Sum256([]byte(tagByWords(kind, parts)))
	return string(whole[:16])
}

func secretByWords(seed string, at, bit, val int) string {
	return keyByWords(impl.TagKey, seed, string([]byte{byte(at), byte(bit), byte(val)}))
}

func publicByWords(seed string, at int) string {
	locks := []string{}
	for bit := range 8 {
		for val := range 2 {
			locks = append(locks, keyByWords(impl.TagPublic, secretByWords(seed, at, bit, val)))
		}
	}
	return keyByWords(impl.TagPublic, locks...)
}

// nodeByWords is what comes of the pool's places from first on, so many of them, two by two.
func nodeByWords(pool []string, first, count int) string {
	if count == 1 {
		return pool[first]
	}
	half := count / 2
	return keyByWords(impl.TagNode, nodeByWords(pool, first, half), nodeByWords(pool, first+half, half))
}

// signByWords wants arguments that are right.
func signByWords(seed string, pool []string, at int, text string) impl.Sig {
	s := impl.Sig{At: at}
	bits := int(keyByWords(impl.TagSign, text)[0])
	for bit := range 8 {
		val := bitByWords(bits, bit)
		s.Open = append(s.Open, secretByWords(seed, at, bit, val))
		s.Shut = append(s.Shut, keyByWords(impl.TagPublic, secretByWords(seed, at, bit, 1-val)))
	}
	for count := 1; count < 16; count *= 2 {
		block := at / count
		beside := block + 1
		if block%2 == 1 {
			beside = block - 1
		}
		s.Sides = append(s.Sides, nodeByWords(pool, beside*count, count))
	}
	return s
}

// sigCopy shares no list with s.
func sigCopy(s impl.Sig) impl.Sig {
	return impl.Sig{At: s.At, Open: slices.Clone(s.Open), Shut: slices.Clone(s.Shut), Sides: slices.Clone(s.Sides)}
}

func sameSig(a, b impl.Sig) bool {
	return a.At == b.At && slices.Equal(a.Open, b.Open) && slices.Equal(a.Shut, b.Shut) && slices.Equal(a.Sides, b.Sides)
}

func isZeroSig(s impl.Sig) bool {
	return sameSig(s, impl.Sig{})
}

// sigLists are the lists of a Sig, to be changed in place.
func sigLists(s *impl.Sig) []*[]string {
	return []*[]string{&s.Open, &s.Shut, &s.Sides}
}

// signed is what the seed signs, with its own pool and its root.
func signed(t *testing.T, seed string, at int, text string) (string, impl.Sig) {
	t.Helper()
	pool := impl.PoolOf(seed)
	s, ok := impl.SignText(seed, pool, at, text)
	if !ok {
		t.Fatalf("SignText at %d of %.20q is false", at, text)
	}
	return impl.PoolRoot(pool), s
}

func someSeeds() []string {
	return []string{"", "one", "house0", "\x00", "\xff\x00", turning(99), turning(100)}
}

func signTexts() []string {
	return []string{"", "a", "hello", "\x00", allBytes()[56:], turning(16), turning(127), turning(128), turning(199), turning(200)}
}

// textOfBits is another text than this one, with these SignBitsOf.
func textOfBits(t *testing.T, bits int, but string) string {
	t.Helper()
	for n := range 100000 {
		text := "text " + impl.Decimal(n)
		if text != but && impl.SignBitsOf(text) == bits {
			return text
		}
	}
	t.Fatalf("no text has the bits %d", bits)
	return ""
}

func wrongPlaces() []int {
	return []int{-1, 16, -2, 17, -16, 32, 255, 256, 256 + 3, -256, 1 << 32, 1<<32 + 3, math.MaxInt, math.MinInt}
}

func TestSignConstants(t *testing.T) {
	if impl.SignBits != 8 || impl.PoolSize != 16 || impl.PoolDeep != 4 || impl.KeyWide != 16 {
		t.Errorf("constants %d, %d, %d, %d", impl.SignBits, impl.PoolSize, impl.PoolDeep, impl.KeyWide)
	}
}

func TestSecretOfByWords(t *testing.T) {
	seen := map[string]bool{}
	for _, seed := range someSeeds() {
		for at := range 16 {
			for bit := range 8 {
				for val := range 2 {
					got := impl.SecretOf(seed, at, bit, val)
					if got != secretByWords(seed, at, bit, val) || got != impl.TagHash(impl.TagKey, []string{seed, string([]byte{byte(at), byte(bit), byte(val)})}, 16) {
						t.Fatalf("SecretOf(%.20q, %d, %d, %d) = %x", seed, at, bit, val, got)
					}
					if seen[got] {
						t.Errorf("SecretOf(%.20q, %d, %d, %d) is another's, too", seed, at, bit, val)
					}
					seen[got] = true
				}
			}
		}
	}
}

func TestSecretOfNothing(t *testing.T) {
	wrongBits := []int{-1, 8, 9, -8, 256, 1 << 32, math.MaxInt, math.MinInt}
	wrongVals := []int{-1, 2, 3, -2, 256, 257, 1 << 32, math.MaxInt, math.MinInt}
	empty := func(seed string, at, bit, val int) {
		if got := impl.SecretOf(seed, at, bit, val); got != "" {
			t.Errorf("SecretOf of %d bytes, %d, %d, %d = %x", len(seed), at, bit, val, got)
		}
	}
	for _, seed := range []string{turning(101), turning(102), turning(200), turning(201), turning(356), turning(impl.MaxText + 1)} {
		empty(seed, 0, 0, 0)
		empty(seed, 15, 7, 1)
	}
	for _, seed := range someSeeds() {
		for _, at := range wrongPlaces() {
			empty(seed, at, 0, 0)
			empty(seed, at, 7, 1)
		}
		for _, bit := range wrongBits {
			empty(seed, 0, bit, 0)
			empty(seed, 15, bit, 1)
		}
		for _, val := range wrongVals {
			empty(seed, 0, 0, val)
			empty(seed, 15, 7, val)
		}
	}
	empty(turning(101), math.MinInt, math.MaxInt, math.MinInt)
}

func TestLockOfByWords(t *testing.T) {
	for size := range 210 {
		secret := turning(size)
		got := impl.LockOf(secret)
		if got != keyByWords(impl.TagPublic, secret) || got != impl.TagHash(impl.TagPublic, []string{secret}, 16) {
			t.Errorf("LockOf of %d bytes = %x", size, got)
		}
		if len(got) == 16 != (size <= 200) || len(got) == 0 != (size > 200) {
			t.Errorf("LockOf of %d bytes has %d", size, len(got))
		}
	}
	if got := impl.LockOf(turning(impl.MaxText + 1)); got != "" {
		t.Errorf("LockOf of a long secret = %x", got)
	}
}

func TestPublicOfByWords(t *testing.T) {
	for _, seed := range someSeeds() {
		for at := range 16 {
			if got := impl.PublicOf(seed, at); got != publicByWords(seed, at) || len(got) != 16 {
				t.Errorf("PublicOf(%.20q, %d) = %x", seed, at, got)
			}
		}
	}
}

// The order of the locks counts: bit by bit, of each 0 and then 1.
func TestPublicOfOrdersLocks(t *testing.T) {
	byVal := []string{}
	for val := range 2 {
		for bit := range 8 {
			byVal = append(byVal, impl.LockOf(impl.SecretOf("one", 3, bit, val)))
		}
	}
	if impl.PublicOf("one", 3) == impl.TagHash(impl.TagPublic, byVal, 16) {
		t.Error("PublicOf has all locks of 0 first")
	}
	byBit := []string{}
	for bit := range 8 {
		byBit = append(byBit, byVal[bit], byVal[8+bit])
	}
	if impl.PublicOf("one", 3) != impl.TagHash(impl.TagPublic, byBit, 16) {
		t.Error("PublicOf has not the locks bit by bit")
	}
}

func TestPublicOfNothing(t *testing.T) {
	for _, at := range wrongPlaces() {
		for _, seed := range someSeeds() {
			if got := impl.PublicOf(seed, at); got != "" {
				t.Errorf("PublicOf(%.20q, %d) = %x", seed, at, got)
			}
		}
	}
	for _, size := range []int{101, 102, 200, 201, impl.MaxText + 1} {
		for at := range 16 {
			if got := impl.PublicOf(turning(size), at); got != "" {
				t.Errorf("PublicOf of %d bytes at %d = %x", size, at, got)
			}
		}
	}
}

func TestPoolOfIsInOrder(t *testing.T) {
	for _, seed := range append(someSeeds(), turning(101), turning(201), turning(impl.MaxText+1)) {
		pool := impl.PoolOf(seed)
		if len(pool) != 16 {
			t.Fatalf("PoolOf of %d bytes has %d", len(seed), len(pool))
		}
		for at, public := range pool {
			want := ""
			if len(seed) <= 100 {
				want = publicByWords(seed, at)
			}
			if public != want || public != impl.PublicOf(seed, at) {
				t.Errorf("PoolOf of %d bytes has %x at %d", len(seed), public, at)
			}
		}
	}
}

// somePools are of PoolSize texts each, some of which are no keys.
func somePools() [][]string {
	pools := [][]string{make([]string, 16), slices.Repeat([]string{"a"}, 16)}
	for _, seed := range append(someSeeds(), turning(101)) {
		pools = append(pools, impl.PoolOf(seed))
	}
	for at := range 16 {
		for _, odd := range []string{"", "a", turning(15), turning(17), turning(200), turning(201), turning(impl.MaxText + 1)} {
			pool := impl.PoolOf("one")
			pool[at] = odd
			pools = append(pools, pool)
		}
	}
	return pools
}

func TestPoolRootByWords(t *testing.T) {
	for i, pool := range somePools() {
		was := slices.Clone(pool)
		if got := impl.PoolRoot(pool); got != nodeByWords(pool, 0, 16) || len(got) != 16 {
			t.Errorf("PoolRoot of pool %d = %x; want %x", i, got, nodeByWords(pool, 0, 16))
		}
		if !slices.Equal(pool, was) {
			t.Errorf("pool %d is another one now", i)
		}
	}
}

// One too long has no hash, and what stands beside it and above it goes on with nothing in its place.
func TestPoolRootWithOneTooLong(t *testing.T) {
	pool := impl.PoolOf("one")
	pool[6] = turning(201)
	root := impl.PoolRoot(pool)
	pool[7] = "another"
	if root == "" || impl.PoolRoot(pool) != root {
		t.Error("what is beside one too long is still told in the root")
	}
	pool[5] = "another"
	if impl.PoolRoot(pool) == root {
		t.Error("what is not beside one too long is told in the root no more")
	}
}

func TestPoolRootOfOtherSizes(t *testing.T) {
	long := slices.Repeat(impl.PoolOf("one"), 3)
	for _, size := range []int{0, 1, 2, 4, 8, 14, 15, 17, 18, 32, 48} {
		if got := impl.PoolRoot(long[:size]); got != "" {
			t.Errorf("PoolRoot of %d = %x", size, got)
		}
	}
	if got := impl.PoolRoot(nil); got != "" {
		t.Errorf("PoolRoot of nil = %x", got)
	}
	if impl.PoolRoot(long[:16]) != impl.PoolRoot(impl.PoolOf("one")) {
		t.Error("what stands behind a pool counts")
	}
}

// Every place of a pool is told in its root, and so is their order.
func TestPoolRootIsOfAll(t *testing.T) {
	root := impl.PoolRoot(impl.PoolOf("one"))
	for at := range 16 {
		pool := impl.PoolOf("one")
		pool[at] = turned(pool[at], at, 1)
		if impl.PoolRoot(pool) == root {
			t.Errorf("with place %d turned the root is the same", at)
		}
		for other := range at {
			pool := impl.PoolOf("one")
			pool[at], pool[other] = pool[other], pool[at]
			if impl.PoolRoot(pool) == root {
				t.Errorf("with %d and %d changed about the root is the same", at, other)
			}
		}
	}
}

func TestSignBitsOfByWords(t *testing.T) {
	for size := range 201 {
		text := turning(size)
		if got := impl.SignBitsOf(text); got != int(keyByWords(impl.TagSign, text)[0]) || got != int(impl.TagHash(impl.TagSign, []string{text}, 16)[0]) {
			t.Errorf("SignBitsOf of %d bytes = %d", size, got)
		}
	}
	for _, size := range []int{201, 202, 256, 400, impl.MaxText + 1} {
		if got := impl.SignBitsOf(turning(size)); got != 0 {
			t.Errorf("SignBitsOf of %d bytes = %d", size, got)
		}
	}
	seen := make([]bool, 256)
	for n := range 5000 {
		seen[impl.SignBitsOf(impl.Decimal(n))] = true
	}
	if slices.Contains(seen, false) {
		t.Error("some bits have no text")
	}
}

// P5: what is signed is right, at every place, and just as the chapter's words have it.
func TestWhatIsSignedIsRight(t *testing.T) {
	for _, seed := range someSeeds() {
		pool := impl.PoolOf(seed)
		root := impl.PoolRoot(pool)
		for at := range 16 {
			for _, text := range signTexts() {
				s, ok := impl.SignText(seed, pool, at, text)
				if !ok || !sameSig(s, signByWords(seed, pool, at, text)) {
					t.Fatalf("SignText(%.20q, at %d, %d bytes) is not the chapter's (%v)", seed, at, len(text), ok)
				}
				if !impl.SigOk(root, text, s) {
					t.Errorf("what %.20q signs at %d of %d bytes is not right", seed, at, len(text))
				}
			}
		}
	}
}

// P5: another text is right with a signature just when its bits are the signed one's.
func TestTextsWithTheSameBitsAreRight(t *testing.T) {
	for at := range 16 {
		text := "signed " + impl.Decimal(at)
		root, s := signed(t, "one", at, text)
		if other := textOfBits(t, impl.SignBitsOf(text), text); !impl.SigOk(root, other, s) {
			t.Errorf("at %d %q is not right for %q, which has its bits", at, text, other)
		}
		for n := range 600 {
			other := "other " + impl.Decimal(n)
			if got := impl.SigOk(root, other, s); got != (impl.SignBitsOf(other) == impl.SignBitsOf(text)) {
				t.Errorf("at %d of bits %d and %d: %v", at, impl.SignBitsOf(text), impl.SignBitsOf(other), got)
			}
		}
	}
}

// P5: with every one of the 256 bits, so also with none and with all.
func TestSigningEveryBits(t *testing.T) {
	for bits := range 256 {
		text := textOfBits(t, bits, "")
		root, s := signed(t, "one", bits%16, text)
		if !impl.SigOk(root, text, s) || !sameSig(s, signByWords("one", impl.PoolOf("one"), bits%16, text)) {
			t.Errorf("the bits %d are not signed as they are", bits)
		}
		if other := textOfBits(t, bits^(1<<(bits%8)), ""); impl.SigOk(root, other, s) {
			t.Errorf("with one bit turned %d is right", bits)
		}
	}
}

// notRight wants SigOk to refuse s, unless it gives, with another that is right, two texts with one digest.
func notRight(t *testing.T, what string, root string, text string, right impl.Sig, s impl.Sig) {
	t.Helper()
	if !impl.SigOk(root, text, s) {
		return
	}
	ours, theirs := impl.SigTexts(text, right), impl.SigTexts(text, s)
	for i := range min(len(ours), len(theirs)) {
		if ours[i] != theirs[i] && impl.CutDigest(ours[i], 16) == impl.CutDigest(theirs[i], 16) {
			return
		}
	}
	t.Errorf("%s: it is right, and gives no two texts with one digest", what)
}

// P5: whatever is turned in a signature is right no more.
func TestTurnedSignaturesAreNotRight(t *testing.T) {
	for at := range 16 {
		text := "hello"
		root, s := signed(t, "one", at, text)
		for which := range 3 {
			for i := range *sigLists(&s)[which] {
				for place := range 16 {
					other := sigCopy(s)
					list := *sigLists(&other)[which]
					list[i] = turned(list[i], place, 1<<(place%8))
					notRight(t, "one byte turned", root, text, s, other)
				}
				for j := range i {
					other := sigCopy(s)
					list := *sigLists(&other)[which]
					list[i], list[j] = list[j], list[i]
					notRight(t, "two changed about", root, text, s, other)
				}
			}
		}
		for bit := range 8 {
			other := sigCopy(s)
			other.Open[bit], other.Shut[bit] = other.Shut[bit], other.Open[bit]
			notRight(t, "one open and one shut changed about", root, text, s, other)
		}
	}
}

// P5: by another root, or of another place, it is right no more.
func TestOtherRootsAndPlacesAreNotRight(t *testing.T) {
	for at := range 16 {
		text := "hello"
		root, s := signed(t, "one", at, text)
		for _, other := range []string{"", "a", impl.PoolRoot(impl.PoolOf("two")), root[:15], root + "\x00", root + root, root[1:], impl.PublicOf("one", at), impl.PoolRoot(nil)} {
			if impl.SigOk(other, text, s) {
				t.Errorf("at %d it is right by %x", at, other)
			}
		}
		for place := range 16 {
			if impl.SigOk(turned(root, place, 128), text, s) {
				t.Errorf("at %d it is right by a root with byte %d turned", at, place)
			}
			other := sigCopy(s)
			other.At = place
			if got := impl.SigOk(root, text, other); got != (place == at) {
				t.Errorf("signed at %d, told as at %d: %v", at, place, got)
			}
		}
		for _, place := range wrongPlaces() {
			refusesForm(t, root, text, impl.Sig{At: place, Open: s.Open, Shut: s.Shut, Sides: s.Sides})
		}
		_, foreign := signed(t, "two", at, text)
		if impl.SigOk(root, text, foreign) {
			t.Errorf("at %d what another signs is right", at)
		}
		foreign.Sides = s.Sides
		if impl.SigOk(root, text, foreign) {
			t.Errorf("at %d what another signs is right with its sides", at)
		}
	}
}

// refusesForm wants nobody to take a signature of this form.
func refusesForm(t *testing.T, root string, text string, s impl.Sig) {
	t.Helper()
	if impl.SigOk(root, text, s) {
		t.Errorf("SigOk with At %d, %d, %d, %d keys", s.At, len(s.Open), len(s.Shut), len(s.Sides))
	}
	if got := impl.SigTexts(text, s); len(got) != 0 {
		t.Errorf("SigTexts with At %d, %d, %d, %d keys has %d", s.At, len(s.Open), len(s.Shut), len(s.Sides), len(got))
	}
	if got, ok := impl.SigText(s); ok || got != "" {
		t.Errorf("SigText with At %d, %d, %d, %d keys = %d bytes, %v", s.At, len(s.Open), len(s.Shut), len(s.Sides), len(got), ok)
	}
}

func TestFormsThatAreNotWanted(t *testing.T) {
	root, s := signed(t, "one", 5, "hello")
	refusesForm(t, root, "hello", impl.Sig{})
	refusesForm(t, root, "hello", impl.Sig{At: 5})
	for which := range 3 {
		count := len(*sigLists(&s)[which])
		for i := range count {
			for _, change := range []func([]string) []string{
				func(list []string) []string { return slices.Delete(list, i, i+1) },
				func(list []string) []string { return slices.Insert(list, i, list[i]) },
				func(list []string) []string { return slices.Insert(list, i, "") },
				func(list []string) []string { list[i] = ""; return list },
				func(list []string) []string { list[i] = list[i][:15]; return list },
				func(list []string) []string { list[i] = list[i][1:]; return list },
				func(list []string) []string { list[i] += "\x00"; return list },
				func(list []string) []string { list[i] += list[i]; return list },
				func(list []string) []string { list[i] = turning(201); return list },
				func(list []string) []string { list[i] = turning(impl.MaxText + 1); return list },
			} {
				other := sigCopy(s)
				list := sigLists(&other)[which]
				*list = change(*list)
				refusesForm(t, root, "hello", other)
			}
		}
		for _, keys := range [][]string{nil, {}, make([]string, count), slices.Repeat([]string{turning(16)}, 100)} {
			other := sigCopy(s)
			*sigLists(&other)[which] = keys
			refusesForm(t, root, "hello", other)
		}
	}
}

// As many bytes in all, but cut elsewhere: one key is too short and the next too long.
func TestFormsThatAreCutElsewhere(t *testing.T) {
	root, s := signed(t, "one", 5, "hello")
	for which := range 3 {
		other := sigCopy(s)
		list := *sigLists(&other)[which]
		list[0], list[1] = list[0][:15], list[0][15:]+list[1]
		refusesForm(t, root, "hello", other)
	}
	moved := sigCopy(s)
	moved.Open, moved.Shut = append(moved.Open, moved.Shut[0]), moved.Shut[1:]
	refusesForm(t, root, "hello", moved)
}

// A text that is too long has no bits: it must not be taken for one whose bits are 0.
func TestTextsThatAreTooLong(t *testing.T) {
	text := textOfBits(t, 0, "")
	root, s := signed(t, "one", 9, text)
	for _, size := range []int{201, 202, 256, impl.MaxText + 1} {
		if impl.SigOk(root, turning(size), s) || len(impl.SigTexts(turning(size), s)) != 0 {
			t.Errorf("a text of %d bytes is right", size)
		}
		for at := range 16 {
			if got, ok := impl.SignText("one", impl.PoolOf("one"), at, turning(size)); ok || !isZeroSig(got) {
				t.Errorf("a text of %d bytes is signed at %d", size, at)
			}
		}
	}
	root, s = signed(t, "one", 9, turning(200))
	if !impl.SigOk(root, turning(200), s) || len(impl.SigTexts(turning(200), s)) != 13 {
		t.Error("a text of 200 bytes is not right")
	}
}

func TestSignTextAtNoPlace(t *testing.T) {
	pool := impl.PoolOf("one")
	for _, at := range wrongPlaces() {
		for _, list := range [][]string{pool, make([]string, 16), nil} {
			if s, ok := impl.SignText("one", list, at, "hello"); ok || !isZeroSig(s) {
				t.Errorf("SignText at %d is %v", at, ok)
			}
		}
	}
}

func TestSignTextWithPoolsOfOtherSizes(t *testing.T) {
	long := slices.Repeat(impl.PoolOf("one"), 2)
	for _, size := range []int{0, 1, 8, 15, 17, 32} {
		for _, at := range []int{0, 7, 14, 15, 16} {
			if s, ok := impl.SignText("one", long[:size], at, "hello"); ok || !isZeroSig(s) {
				t.Errorf("SignText at %d of a pool of %d is %v", at, size, ok)
			}
		}
	}
	if s, ok := impl.SignText("one", nil, 0, "hello"); ok || !isZeroSig(s) {
		t.Error("SignText without a pool is true")
	}
	if _, ok := impl.SignText("one", long[:16], 15, "hello"); !ok {
		t.Error("what stands behind a pool counts")
	}
}

// Only the place that is signed at must be the seed's.
func TestSignTextWithPoolsOfOthers(t *testing.T) {
	others := []string{"", "a", impl.PublicOf("two", 3), turning(15), turning(16), turning(17), turning(201)}
	for at := range 16 {
		for place := range 16 {
			for _, other := range others {
				pool := impl.PoolOf("one")
				pool[place] = other
				s, ok := impl.SignText("one", pool, at, "hello")
				if at == place {
					if ok || !isZeroSig(s) {
						t.Errorf("SignText at %d, where the pool has %.20q, is %v", at, other, ok)
					}
					continue
				}
				if !ok || !sameSig(s, signByWords("one", pool, at, "hello")) {
					t.Fatalf("SignText at %d, where the pool has %.20q at %d, is not the chapter's (%v)", at, other, place, ok)
				}
				if len(other) == 16 && !impl.SigOk(impl.PoolRoot(pool), "hello", s) {
					t.Errorf("signed at %d with another's place %d it is not right", at, place)
				}
			}
		}
		changed := impl.PoolOf("one")
		changed[at], changed[(at+1)%16] = changed[(at+1)%16], changed[at]
		if s, ok := impl.SignText("one", changed, at, "hello"); ok || !isZeroSig(s) {
			t.Errorf("SignText at %d, where the seed's key of another place is, is %v", at, ok)
		}
		if s, ok := impl.SignText("two", impl.PoolOf("one"), at, "hello"); ok || !isZeroSig(s) {
			t.Errorf("SignText at %d of another's pool is %v", at, ok)
		}
		if s, ok := impl.SignText(turning(101), impl.PoolOf("one"), at, "hello"); ok || !isZeroSig(s) {
			t.Errorf("SignText at %d of a seed that is too long is %v", at, ok)
		}
	}
}

func TestSigTextsByWords(t *testing.T) {
	for at := range 16 {
		for _, text := range signTexts() {
			root, s := signed(t, "one", at, text)
			if got := impl.SigTexts(text, s); !slices.Equal(got, sigTextsByWords(text, s)) {
				t.Errorf("SigTexts at %d of %d bytes are not the chapter's", at, len(text))
			} else if len(got) != 8+1+4 || impl.CutDigest(got[12], 16) != root {
				t.Errorf("of the %d SigTexts at %d the last one's hash is not the root", len(got), at)
			}
		}
	}
}

// sigTextsByWords wants a Sig of the right form.
func sigTextsByWords(text string, s impl.Sig) []string {
	texts := []string{}
	locks := []string{}
	bits := int(keyByWords(impl.TagSign, text)[0])
	for i, secret := range s.Open {
		texts = append(texts, tagByWords(impl.TagPublic, []string{secret}))
		if lock := keyByWords(impl.TagPublic, secret); bitByWords(bits, i) == 0 {
			locks = append(locks, lock, s.Shut[i])
		} else {
			locks = append(locks, s.Shut[i], lock)
		}
	}
	texts = append(texts, tagByWords(impl.TagPublic, locks))
	hash := keyByWords(impl.TagPublic, locks...)
	place := s.At
	for _, side := range s.Sides {
		both := []string{hash, side}
		if place%2 == 1 {
			both = []string{side, hash}
		}
		texts = append(texts, tagByWords(impl.TagNode, both))
		hash = keyByWords(impl.TagNode, both...)
		place /= 2
	}
	return texts
}

// SigTexts are of every form that is wanted, whether it is right or not; SigOk goes by the last of them.
func TestSigTextsOfWhatIsNotRight(t *testing.T) {
	made := impl.Sig{Open: []string{}, Shut: []string{}, Sides: []string{}}
	for i := range 8 {
		made.Open = append(made.Open, turning(300)[i:i+16])
		made.Shut = append(made.Shut, turning(300)[100+i:116+i])
	}
	for i := range 4 {
		made.Sides = append(made.Sides, turning(300)[200+i:216+i])
	}
	for at := range 16 {
		made.At = at
		for _, text := range signTexts() {
			got := impl.SigTexts(text, made)
			if !slices.Equal(got, sigTextsByWords(text, made)) {
				t.Fatalf("SigTexts at %d of %d bytes are not the chapter's", at, len(text))
			}
			if !impl.SigOk(impl.CutDigest(got[12], 16), text, made) || impl.SigOk(impl.CutDigest(got[11], 16), text, made) {
				t.Errorf("at %d SigOk does not go by the last of SigTexts", at)
			}
		}
	}
}

// P5: whatever else is right for a root differs from what was signed in two texts with one digest: each text has the hashes of those ahead of it, and no key stands outside of them.
func TestSigTextsHaveAllOfASignature(t *testing.T) {
	for at := range 16 {
		_, s := signed(t, "one", at, "hello")
		texts := impl.SigTexts("hello", s)
		for bit := range 8 {
			val := bitByWords(impl.SignBitsOf("hello"), bit)
			begin := 1 + 17*(2*bit+val) + 1
			if texts[8][begin:begin+16] != impl.CutDigest(texts[bit], 16) {
				t.Errorf("the lock of bit %d is not in its place", bit)
			}
			begin = 1 + 17*(2*bit+1-val) + 1
			if texts[8][begin:begin+16] != s.Shut[bit] {
				t.Errorf("what is shut of bit %d is not in its place", bit)
			}
		}
		for i := range 4 {
			if below := impl.CutDigest(texts[8+i], 16); !strings.Contains(texts[9+i], below) || !strings.Contains(texts[9+i], s.Sides[i]) {
				t.Errorf("text %d has not what is below it", 9+i)
			}
		}
	}
}

func TestSigTextIsReadBack(t *testing.T) {
	for _, seed := range someSeeds() {
		for at := range 16 {
			_, s := signed(t, seed, at, "hello")
			text, ok := impl.SigText(s)
			if want := string([]byte{byte(at)}) + strings.Join(s.Open, "") + strings.Join(s.Shut, "") + strings.Join(s.Sides, ""); !ok || text != want || len(text) != 321 {
				t.Fatalf("SigText at %d = %d bytes, %v", at, len(text), ok)
			}
			back, ok := impl.ReadSig(text)
			if !ok || !sameSig(back, s) {
				t.Errorf("ReadSig at %d is another one, %v", at, ok)
			}
		}
	}
}

func TestReadSigIsWrittenAgain(t *testing.T) {
	for at := range 16 {
		for _, rest := range []string{strings.Repeat("\x00", 320), strings.Repeat("\xff", 320), turning(320), allBytes() + allBytes()[:64]} {
			text := string([]byte{byte(at)}) + rest
			s, ok := impl.ReadSig(text)
			if !ok || s.At != at || len(s.Open) != 8 || len(s.Shut) != 8 || len(s.Sides) != 4 {
				t.Fatalf("ReadSig at %d: %v", at, ok)
			}
			for i := range 20 {
				if got := slices.Concat(s.Open, s.Shut, s.Sides)[i]; got != rest[16*i:16*i+16] {
					t.Errorf("key %d is %x", i, got)
				}
			}
			if again, ok := impl.SigText(s); !ok || again != text {
				t.Errorf("SigText of what was read at %d is another one, %v", at, ok)
			}
		}
	}
}

func TestReadSigRefuses(t *testing.T) {
	_, s := signed(t, "one", 5, "hello")
	text, _ := impl.SigText(s)
	wrong := []string{"", "\x05", text[:320], text[1:], text + "\x00", text + text, text[:305], text[:1], "\x00" + text, turning(impl.MaxText + 1)}
	for b := 16; b < 256; b++ {
		wrong = append(wrong, string([]byte{byte(b)})+text[1:])
	}
	for size := range 321 {
		wrong = append(wrong, text[:size])
	}
	for _, other := range wrong {
		if got, ok := impl.ReadSig(other); ok || !isZeroSig(got) {
			t.Errorf("ReadSig of %d bytes %.3q.. is %v", len(other), other, ok)
		}
	}
}

// What was read of a signature whose bytes were turned is right no more, or it is not read.
func TestTurnedSigTexts(t *testing.T) {
	root, s := signed(t, "one", 5, "hello")
	text, _ := impl.SigText(s)
	for place := range len(text) {
		for bit := range 8 {
			other, ok := impl.ReadSig(turned(text, place, 1<<bit))
			if place == 0 && ok != (5^1<<bit < 16) || place > 0 && !ok {
				t.Errorf("with byte %d turned by %d it is read: %v", place, 1<<bit, ok)
			}
			if ok {
				notRight(t, "a byte turned", root, "hello", s, other)
			}
		}
	}
}

// The lists that are handed in may be pieces of longer ones, whose spare room is somebody else's.
func TestSignsWriteIntoNoArgument(t *testing.T) {
	room := slices.Repeat(impl.PoolOf("one"), 2)
	was := slices.Clone(room)
	for _, size := range []int{0, 15, 16, 17} {
		impl.PoolRoot(room[:size])
		impl.SignText("one", room[:size], 5, "hello")
		impl.SignText("two", room[:size], 5, "hello")
	}
	if !slices.Equal(room, was) {
		t.Error("a pool was written into")
	}
	root, s := signed(t, "one", 5, "hello")
	lists := sigCopy(s)
	for _, list := range sigLists(&lists) {
		*list = append(*list, "spare", "room")
	}
	kept := sigCopy(lists)
	given := impl.Sig{At: 5, Open: lists.Open[:8], Shut: lists.Shut[:8], Sides: lists.Sides[:4]}
	impl.SigOk(root, "hello", given)
	impl.SigTexts("hello", given)
	impl.SigText(given)
	if !sameSig(lists, kept) {
		t.Error("a signature was written into")
	}
}

// noneShares wants no text of the one list in the memory of the other's.
func noneShares(t *testing.T, what string, list []string, other []string) {
	t.Helper()
	for _, a := range list {
		for _, b := range other {
			if sharesMemory(a, b) || sharesMemory(b, a) {
				t.Fatalf("%s share memory", what)
			}
		}
	}
}

func TestSignsAnswerNewMemory(t *testing.T) {
	pool := impl.PoolOf("one")
	was := slices.Clone(pool)
	s, _ := impl.SignText("one", pool, 5, "hello")
	noneShares(t, "a signature and its pool", slices.Concat(s.Open, s.Shut, s.Sides), pool)
	ownLists(t, s)
	text, _ := impl.SigText(s)
	noneShares(t, "a signature and its text", slices.Concat(s.Open, s.Shut, s.Sides), []string{text})
	read, _ := impl.ReadSig(text)
	noneShares(t, "what was read and its text", slices.Concat(read.Open, read.Shut, read.Sides), []string{text})
	ownLists(t, read)
	texts := impl.SigTexts("hello", s)
	noneShares(t, "a signature and what is digested of it", slices.Concat(s.Open, s.Shut, s.Sides), texts)
	for _, list := range sigLists(&s) {
		clear(*list)
	}
	if !slices.Equal(pool, was) || !slices.Equal(pool, impl.PoolOf("one")) {
		t.Error("a pool goes with what was signed with it")
	}
}

// ownLists wants no two lists of a signature to share memory, not even in their spare room.
func ownLists(t *testing.T, s impl.Sig) {
	t.Helper()
	noneShares(t, "Open and Shut", s.Open, s.Shut)
	noneShares(t, "Open and Sides", s.Open, s.Sides)
	noneShares(t, "Shut and Sides", s.Shut, s.Sides)
	kept := sigCopy(s)
	for _, list := range sigLists(&s) {
		_ = append(*list, "x", "y", "z", "x", "y", "z", "x", "y", "z")
		for i := range (*list)[:cap(*list)] {
			if i >= len(*list) {
				(*list)[:cap(*list)][i] = "spare"
			}
		}
	}
	if !sameSig(s, kept) {
		t.Error("two lists of a signature share their room")
	}
}

// Every call answers from what it is given alone: again the same, and what was changed of an answer is not in the next one.
func TestSignsKeepNothing(t *testing.T) {
	pool := impl.PoolOf("one")
	kept := slices.Clone(pool)
	s, _ := impl.SignText("one", pool, 5, "hello")
	clear(s.Open)
	clear(pool)
	again, ok := impl.SignText("one", impl.PoolOf("one"), 5, "hello")
	if !ok || !sameSig(again, signByWords("one", kept, 5, "hello")) || !slices.Equal(impl.PoolOf("one"), kept) {
		t.Error("an answer goes with what was done to one ahead")
	}
}
