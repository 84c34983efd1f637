package tests

import (
	"crypto/sha256"
	"encoding/hex"
	"math"
	"slices"
	"strings"
	"testing"

	"loop.example/g00284/impl"
)

// sealPlaces are where each epoch's own seal is signed, from epoch 1 on.
var sealPlaces = [4]int{0, 1, 2, 3}

// stampPlaces are where each epoch's stamp is signed, house by house, from epoch 1 on.
var stampPlaces = [3][4]int{{4, 5, 6, 7}, {8, 9, 10, 11}, {12, 13, 14, 15}}

func sealPlace(h impl.Head) int {
	return sealPlaces[h.Epoch-1]
}

func stampPlace(h impl.Head) int {
	return stampPlaces[h.House][h.Epoch-1]
}

// stampedByWords is the text that a stamp signs.
func stampedByWords(h impl.Head) string {
	return hashByWords(16, 8, headHashByWords(h))
}

// sealByWords wants a right head, and the seed's own pool.
func sealByWords(seed string, pool []string, h impl.Head) impl.Seal {
	return impl.Seal{Head: h, Sig: signByWords(seed, pool, sealPlace(h), headHashByWords(h))}
}

func stampByWords(seed string, pool []string, h impl.Head) impl.Sig {
	return signByWords(seed, pool, stampPlace(h), stampedByWords(h))
}

// sigTextOf wants a Sig of the right form.
func sigTextOf(s impl.Sig) string {
	return string([]byte{byte(s.At)}) + strings.Join(slices.Concat(s.Open, s.Shut, s.Sides), "")
}

// sealTextByWords puts together what stands in a seal's text; a head's length is one byte.
func sealTextByWords(s impl.Seal) string {
	head := headTextByWords(s.Head)
	return string([]byte{byte(len(head))}) + head + sigTextOf(s.Sig)
}

func sameSeal(a, b impl.Seal) bool {
	return a.Head == b.Head && sameSig(a.Sig, b.Sig)
}

func isZeroSeal(s impl.Seal) bool {
	return sameSeal(s, impl.Seal{})
}

func sealSeeds() []string {
	return []string{"one", "", "house2", turning(100)}
}

// aHeadEach has one right head of every house and epoch.
func aHeadEach() []impl.Head {
	var list []impl.Head
	for _, house := range rightHouses() {
		list = append(list, chainFrom(house, 4, 3*house)...)
	}
	return list
}

// sealed is a head's seal by a seed, and the seed's root.
func sealed(t *testing.T, seed string, h impl.Head) (string, impl.Seal) {
	t.Helper()
	pool := impl.PoolOf(seed)
	s, ok := impl.SealHead(seed, pool, h)
	if !ok {
		t.Fatalf("SealHead of %v is false", h)
	}
	return impl.PoolRoot(pool), s
}

// stamped is a head's stamp by a seed, and the seed's root.
func stamped(t *testing.T, seed string, h impl.Head) (string, impl.Sig) {
	t.Helper()
	pool := impl.PoolOf(seed)
	s, ok := impl.StampHead(seed, pool, h)
	if !ok {
		t.Fatalf("StampHead of %v is false", h)
	}
	return impl.PoolRoot(pool), s
}

func isSealOk(t *testing.T, what string, root string, s impl.Seal, want bool) {
	t.Helper()
	if ok := impl.SealOk(root, s); ok != want {
		t.Errorf("SealOk of %s (head %v, At %d): %v", what, s.Head, s.Sig.At, ok)
	}
}

func isStampOk(t *testing.T, what string, root string, h impl.Head, s impl.Sig, want bool) {
	t.Helper()
	if ok := impl.StampOk(root, h, s); ok != want {
		t.Errorf("StampOk of %s (head %v, At %d): %v", what, h, s.At, ok)
	}
}

func refusesToSeal(t *testing.T, what string, seed string, pool []string, h impl.Head) {
	t.Helper()
	if s, ok := impl.SealHead(seed, pool, h); ok || !isZeroSeal(s) {
		t.Errorf("SealHead of %s, head %v: %v, %v", what, h, s, ok)
	}
}

func refusesToStamp(t *testing.T, what string, seed string, pool []string, h impl.Head) {
	t.Helper()
	if s, ok := impl.StampHead(seed, pool, h); ok || !isZeroSig(s) {
		t.Errorf("StampHead of %s, head %v: %v, %v", what, h, s, ok)
	}
}

func refusesSeal(t *testing.T, what string, text string) {
	t.Helper()
	if s, ok := impl.ReadSeal(text); ok || !isZeroSeal(s) {
		t.Errorf("ReadSeal of %s (%d bytes, %.20x..): %v, %v", what, len(text), text, s.Head, ok)
	}
}

func noSealText(t *testing.T, what string, s impl.Seal) {
	t.Helper()
	if text, ok := impl.SealText(s); ok || text != "" {
		t.Errorf("SealText of %s: %x, %v", what, text, ok)
	}
}

// headOfBits is a right head like h, with another Root, of which this text has these bits.
func headOfBits(t *testing.T, h impl.Head, bits int, signs func(impl.Head) string) impl.Head {
	t.Helper()
	for n := range 100000 {
		other := h
		other.Root = hashByWords(16, 1, impl.Decimal(n))
		if other != h && impl.SignBitsOf(signs(other)) == bits {
			return other
		}
	}
	t.Fatalf("no head has the bits %d", bits)
	return h
}

// otherRoots are not quite this one, or not at all.
func otherRoots(root string) []string {
	list := []string{"", root[:15], root[1:], root + "\x00", root + root, impl.PoolRoot(impl.PoolOf("another")), strings.Repeat("\x00", 16)}
	for at := range len(root) {
		for _, by := range []byte{1, 0x10, 0x80, 0xff} {
			list = append(list, turned(root, at, by))
		}
	}
	return list
}

// shapedOtherwise are what s is with one text fewer or more, or one that is shorter or longer.
func shapedOtherwise(s impl.Sig) []impl.Sig {
	var all []impl.Sig
	for which := range 3 {
		count := len(*sigLists(&s)[which])
		for i := range count {
			for _, change := range []func([]string) []string{
				func(list []string) []string { return slices.Delete(list, i, i+1) },
				func(list []string) []string { return slices.Insert(list, i, list[i]) },
				func(list []string) []string { list[i] = list[i][:15]; return list },
				func(list []string) []string { list[i] = list[i][1:]; return list },
				func(list []string) []string { list[i] += "\x00"; return list },
				func(list []string) []string { list[i] = "\x00" + list[i]; return list },
				func(list []string) []string { list[i] = ""; return list },
			} {
				other := sigCopy(s)
				list := sigLists(&other)[which]
				*list = change(*list)
				all = append(all, other)
			}
		}
		other := sigCopy(s)
		*sigLists(&other)[which] = nil
		all = append(all, other)
	}
	return append(all, impl.Sig{}, impl.Sig{At: s.At})
}

// turnedOtherwise are what s is with one byte turned, in each of its texts.
func turnedOtherwise(s impl.Sig) []impl.Sig {
	var all []impl.Sig
	for which := range 3 {
		for i := range *sigLists(&s)[which] {
			for at := range 16 {
				other := sigCopy(s)
				list := *sigLists(&other)[which]
				list[i] = turned(list[i], at, 1<<(at%8))
				all = append(all, other)
			}
		}
	}
	return all
}

func TestSealAt(t *testing.T) {
	for epoch, want := range map[int]int{0: -1, 1: 0, 2: 1, 3: 2, impl.MaxEpochs: 3, impl.MaxEpochs + 1: -1, -1: -1, -100: -1, 100: -1} {
		if at := impl.SealAt(epoch); at != want {
			t.Errorf("SealAt(%d) = %d", epoch, at)
		}
	}
	for _, epoch := range wrongEpochs() {
		if at := impl.SealAt(epoch); at != -1 {
			t.Errorf("SealAt(%d) = %d", epoch, at)
		}
	}
}

func TestStampAt(t *testing.T) {
	seen := []int{0, 1, 2, 3}
	for house, row := range stampPlaces {
		for i, want := range row {
			at := impl.StampAt(house, i+1)
			if at != want {
				t.Errorf("StampAt(%d, %d) = %d", house, i+1, at)
			}
			if slices.Contains(seen, at) {
				t.Errorf("StampAt(%d, %d) = %d is another's, too", house, i+1, at)
			}
			seen = append(seen, at)
		}
	}
	if len(seen) != impl.PoolSize || slices.Max(seen) != impl.PoolSize-1 {
		t.Errorf("the places are %v", seen)
	}
}

func TestStampAtOfWhatIsNotRight(t *testing.T) {
	none := func(house, epoch int) {
		t.Helper()
		if at := impl.StampAt(house, epoch); at != -1 {
			t.Errorf("StampAt(%d, %d) = %d", house, epoch, at)
		}
	}
	for _, house := range append(wrongHouses(), -1, impl.MaxHouses, math.MaxInt/4, math.MinInt/4) {
		for _, epoch := range append(rightEpochs(), wrongEpochs()...) {
			none(house, epoch)
		}
	}
	for _, epoch := range append(wrongEpochs(), 0, impl.MaxEpochs+1) {
		for _, house := range append(rightHouses(), wrongHouses()...) {
			none(house, epoch)
		}
	}
}

// P14: a right head that is sealed is right by its house's root, and by no other.
func TestSealsAreRightByTheirRootAlone(t *testing.T) {
	for _, seed := range sealSeeds() {
		pool := impl.PoolOf(seed)
		root := impl.PoolRoot(pool)
		for _, h := range append(rightHeads(), aHeadEach()...) {
			s, ok := impl.SealHead(seed, pool, h)
			if !ok || !sameSeal(s, sealByWords(seed, pool, h)) {
				t.Fatalf("SealHead of %v is not the chapter's (%v)", h, ok)
			}
			isSealOk(t, "what was sealed", root, s, true)
		}
		for _, h := range aHeadEach() {
			_, s := sealed(t, seed, h)
			for _, other := range otherRoots(root) {
				isSealOk(t, "another root", other, s, false)
			}
			for _, another := range sealSeeds() {
				isSealOk(t, "a seed's root", impl.PoolRoot(impl.PoolOf(another)), s, another == seed)
			}
		}
	}
}

// P14: a stamp likewise.
func TestStampsAreRightByTheirRootAlone(t *testing.T) {
	for _, seed := range sealSeeds() {
		pool := impl.PoolOf(seed)
		root := impl.PoolRoot(pool)
		for _, h := range append(rightHeads(), aHeadEach()...) {
			s, ok := impl.StampHead(seed, pool, h)
			if !ok || !sameSig(s, stampByWords(seed, pool, h)) {
				t.Fatalf("StampHead of %v is not the chapter's (%v)", h, ok)
			}
			isStampOk(t, "what was stamped", root, h, s, true)
		}
		for _, h := range aHeadEach() {
			_, s := stamped(t, seed, h)
			for _, other := range otherRoots(root) {
				isStampOk(t, "another root", other, h, s, false)
			}
			for _, another := range sealSeeds() {
				isStampOk(t, "a seed's root", impl.PoolRoot(impl.PoolOf(another)), h, s, another == seed)
			}
		}
	}
}

// P14: whoever has no secret of the house's pool makes no seal and no stamp that is right by its root.
func TestWhatAnotherSignsIsNotTheHouses(t *testing.T) {
	pool := impl.PoolOf("one")
	root := impl.PoolRoot(pool)
	for _, h := range aHeadEach() {
		_, own := sealed(t, "one", h)
		_, s := sealed(t, "two", h)
		isSealOk(t, "what another sealed", root, s, false)
		s.Sig.Sides = own.Sig.Sides
		isSealOk(t, "what another sealed, with the house's sides", root, s, false)
		_, stamp := stamped(t, "two", h)
		isStampOk(t, "what another stamped", root, h, stamp, false)
		_, mine := stamped(t, "one", h)
		stamp.Sides = mine.Sides
		isStampOk(t, "what another stamped, with the house's sides", root, h, stamp, false)
		refusesToSeal(t, "another seed", "two", pool, h)
		refusesToStamp(t, "another seed", "two", pool, h)
	}
}

// P14: with another head of the epoch in its place a seal is right just when the signature is right for that.
func TestSealsWithAnotherHeadOfTheEpoch(t *testing.T) {
	for _, h := range aHeadEach() {
		root, s := sealed(t, "one", h)
		taken := 0
		for n := range 2000 {
			other := h
			other.Root = hashByWords(16, 2, impl.Decimal(n))
			other.House = n % 3
			want := impl.SigOk(root, headHashByWords(other), s.Sig)
			isSealOk(t, "another head", root, impl.Seal{Head: other, Sig: s.Sig}, want)
			if want != (impl.SignBitsOf(headHashByWords(other)) == impl.SignBitsOf(headHashByWords(h))) {
				t.Errorf("the bits of %v tell otherwise", other)
			}
			if want {
				taken++
			}
		}
		if taken == 0 || taken == 2000 {
			t.Errorf("%d of the other heads are taken", taken)
		}
		same := headOfBits(t, h, impl.SignBitsOf(headHashByWords(h)), headHashByWords)
		isSealOk(t, "a head with the same bits", root, impl.Seal{Head: same, Sig: s.Sig}, true)
		for bit := range 8 {
			unlike := headOfBits(t, h, impl.SignBitsOf(headHashByWords(h))^1<<bit, headHashByWords)
			isSealOk(t, "a head with a bit turned", root, impl.Seal{Head: unlike, Sig: s.Sig}, false)
		}
	}
}

// What is turned in a head is told by its hash alone.
func TestSealsWithHeadsTurned(t *testing.T) {
	for _, h := range aHeadEach() {
		root, s := sealed(t, "one", h)
		_, stamp := stamped(t, "one", h)
		for _, other := range otherHeads(h) {
			want := other.Epoch == h.Epoch && impl.SignBitsOf(headHashByWords(other)) == impl.SignBitsOf(headHashByWords(h))
			isSealOk(t, "a head turned", root, impl.Seal{Head: other, Sig: s.Sig}, want)
			want = other.Epoch == h.Epoch && other.House == h.House && impl.SignBitsOf(stampedByWords(other)) == impl.SignBitsOf(stampedByWords(h))
			isStampOk(t, "a head turned", root, other, stamp, want)
		}
	}
}

// Even with the same bits a head of another epoch, or a stamp of one of another house, wants another key.
func TestHeadsOfOtherEpochsWithTheSameBits(t *testing.T) {
	for _, h := range aHeadEach() {
		root, s := sealed(t, "one", h)
		_, stamp := stamped(t, "one", h)
		for _, like := range aHeadEach() {
			other := headOfBits(t, like, impl.SignBitsOf(headHashByWords(h)), headHashByWords)
			isSealOk(t, "a head with the same bits", root, impl.Seal{Head: other, Sig: s.Sig}, like.Epoch == h.Epoch)
			other = headOfBits(t, like, impl.SignBitsOf(stampedByWords(h)), stampedByWords)
			isStampOk(t, "a head with the same bits", root, other, stamp, like.Epoch == h.Epoch && like.House == h.House)
		}
	}
}

// No seal is a stamp of its head, and no stamp a seal.
func TestSealsAreNoStamps(t *testing.T) {
	for _, h := range append(rightHeads(), aHeadEach()...) {
		root, s := sealed(t, "one", h)
		_, stamp := stamped(t, "one", h)
		isStampOk(t, "a seal's Sig", root, h, s.Sig, false)
		isSealOk(t, "a stamp", root, impl.Seal{Head: h, Sig: stamp}, false)
		moved := sigCopy(s.Sig)
		moved.At = stamp.At
		isStampOk(t, "a seal's Sig at a stamp's place", root, h, moved, false)
		moved = sigCopy(stamp)
		moved.At = s.Sig.At
		isSealOk(t, "a stamp at a seal's place", root, impl.Seal{Head: h, Sig: moved}, false)
		plain, _ := impl.SignText("one", impl.PoolOf("one"), stampPlace(h), headHashByWords(h))
		sameBits := impl.SignBitsOf(stampedByWords(h)) == impl.SignBitsOf(headHashByWords(h))
		isStampOk(t, "a hash signed without its tag", root, h, plain, sameBits)
	}
}

// What is signed with another of the pool's keys is right as a signature, and yet no seal and no stamp.
func TestSealsAndStampsAtEveryPlace(t *testing.T) {
	pool := impl.PoolOf("one")
	root := impl.PoolRoot(pool)
	for _, h := range aHeadEach() {
		for at := range impl.PoolSize {
			sig, _ := impl.SignText("one", pool, at, headHashByWords(h))
			if !impl.SigOk(root, headHashByWords(h), sig) {
				t.Fatalf("what is signed at %d is not right", at)
			}
			isSealOk(t, "this place", root, impl.Seal{Head: h, Sig: sig}, at == sealPlace(h))
			sig, _ = impl.SignText("one", pool, at, stampedByWords(h))
			isStampOk(t, "this place", root, h, sig, at == stampPlace(h))
		}
		_, s := sealed(t, "one", h)
		_, stamp := stamped(t, "one", h)
		for _, at := range append(wrongPlaces(), s.Sig.At-1, s.Sig.At+1, stamp.At-1, stamp.At+1, impl.StampAt(h.House, h.Epoch)) {
			moved := sigCopy(s.Sig)
			moved.At = at
			isSealOk(t, "a Sig told as at another place", root, impl.Seal{Head: h, Sig: moved}, at == s.Sig.At)
			moved = sigCopy(stamp)
			moved.At = at
			isStampOk(t, "a Sig told as at another place", root, h, moved, at == stamp.At)
		}
	}
}

func TestSealsOfHeadsThatAreNotRight(t *testing.T) {
	pool := impl.PoolOf("one")
	root := impl.PoolRoot(pool)
	_, right := sealed(t, "one", aHeadEach()[0])
	for _, h := range wrongHeads() {
		refusesToSeal(t, "a head that is not right", "one", pool, h)
		refusesToStamp(t, "a head that is not right", "one", pool, h)
		isSealOk(t, "a head that is not right", root, impl.Seal{Head: h, Sig: right.Sig}, false)
		isStampOk(t, "a head that is not right", root, h, right.Sig, false)
		noSealText(t, "a head that is not right", impl.Seal{Head: h, Sig: right.Sig})
	}
}

// A head that is not right has no hash; nobody makes a seal of it by signing nothing, or what its hash would be.
func TestSignedNothingIsNoSeal(t *testing.T) {
	pool := impl.PoolOf("one")
	root := impl.PoolRoot(pool)
	for _, h := range wrongHeads() {
		for _, hash := range []string{"", hashByWords(16, 4, headTextByWords(h))} {
			for at := range impl.PoolSize {
				sig := signByWords("one", pool, at, hash)
				isSealOk(t, "a head that is not right", root, impl.Seal{Head: h, Sig: sig}, false)
				sig = signByWords("one", pool, at, hashByWords(16, 8, hash))
				isStampOk(t, "a head that is not right", root, h, sig, false)
			}
		}
	}
	refusesToSeal(t, "no head", "one", pool, impl.Head{})
	refusesToStamp(t, "no head", "one", pool, impl.Head{})
	isSealOk(t, "no seal", root, impl.Seal{}, false)
	isSealOk(t, "no seal by no root", "", impl.Seal{}, false)
	isStampOk(t, "no stamp", "", impl.Head{}, impl.Sig{}, false)
}

func TestSealHeadAtEveryEpoch(t *testing.T) {
	for _, h := range aHeadEach() {
		root, s := sealed(t, "one", h)
		if s.Sig.At != impl.SealAt(h.Epoch) || s.Sig.At != sealPlace(h) || s.Head != h {
			t.Errorf("SealHead of %v: at %d, of %v", h, s.Sig.At, s.Head)
		}
		want, _ := impl.SignText("one", impl.PoolOf("one"), s.Sig.At, impl.HeadHash(h))
		if !sameSig(s.Sig, want) || !impl.SigOk(root, impl.HeadHash(h), s.Sig) {
			t.Errorf("SealHead of %v has not SignText of its hash", h)
		}
	}
}

// The own house's heads are stamped as any other's: whose pool it is, StampHead is not told.
func TestStampHeadOfEveryHouse(t *testing.T) {
	for own := range impl.MaxHouses {
		seed := "house" + impl.Decimal(own)
		pool := impl.PoolOf(seed)
		for _, h := range aHeadEach() {
			root, s := stamped(t, seed, h)
			if s.At != impl.StampAt(h.House, h.Epoch) || s.At != stampPlace(h) {
				t.Errorf("StampHead of %v by the house %d is at %d", h, own, s.At)
			}
			text := impl.TagHash(impl.TagStamp, []string{impl.HeadHash(h)}, impl.HashWide)
			isHash(t, "what a stamp signs", text, stampedByWords(h))
			want, _ := impl.SignText(seed, pool, s.At, text)
			if !sameSig(s, want) || !impl.SigOk(root, text, s) {
				t.Errorf("StampHead of %v by the house %d has not SignText of its tagged hash", h, own)
			}
			isStampOk(t, "a stamp of a house", root, h, s, true)
		}
	}
}

// refusesBoth wants neither a seal nor a stamp of any house and epoch.
func refusesBoth(t *testing.T, what string, seed string, pool []string) {
	t.Helper()
	for _, h := range aHeadEach() {
		refusesToSeal(t, what, seed, pool, h)
		refusesToStamp(t, what, seed, pool, h)
	}
}

func TestSealingWithWrongPoolsAndSeeds(t *testing.T) {
	pool := impl.PoolOf("one")
	long := slices.Repeat(pool, 2)
	for _, size := range []int{0, 1, 8, impl.PoolSize - 1, impl.PoolSize + 1, 2 * impl.PoolSize} {
		refusesBoth(t, "a pool of another size", "one", long[:size])
	}
	refusesBoth(t, "no pool", "one", nil)
	refusesBoth(t, "a pool of another seed", "one", impl.PoolOf("two"))
	refusesBoth(t, "another seed", "two", pool)
	refusesBoth(t, "a pool of empty texts", "one", make([]string, impl.PoolSize))
	backwards := slices.Clone(pool)
	slices.Reverse(backwards)
	refusesBoth(t, "a pool the other way round", "one", backwards)
	for _, size := range []int{101, 102, 200, 201, impl.MaxText + 1} {
		refusesBoth(t, "a seed that is too long", turning(size), pool)
		refusesBoth(t, "a seed that is too long, and a pool of its beginning", turning(size), impl.PoolOf(turning(100)))
	}
	for _, h := range aHeadEach() {
		if s, ok := impl.SealHead(turning(100), impl.PoolOf(turning(100)), h); !ok || s.Sig.At != sealPlace(h) {
			t.Errorf("SealHead by a seed of 100 bytes: %v", ok)
		}
		if s, ok := impl.StampHead(turning(100), impl.PoolOf(turning(100)), h); !ok || s.At != stampPlace(h) {
			t.Errorf("StampHead by a seed of 100 bytes: %v", ok)
		}
	}
}

// Only the key that signs must be the seed's: SignText asks for no other.
func TestSealingWithOneOtherKeyInThePool(t *testing.T) {
	for _, h := range aHeadEach() {
		for at := range impl.PoolSize {
			pool := impl.PoolOf("one")
			pool[at] = impl.PublicOf("two", at)
			root := impl.PoolRoot(pool)
			s, ok := impl.SealHead("one", pool, h)
			if ok != (at != sealPlace(h)) || ok && !sameSeal(s, sealByWords("one", pool, h)) || !ok && !isZeroSeal(s) {
				t.Errorf("SealHead of %v with another's key at %d: %v", h, at, ok)
			}
			isSealOk(t, "another's key in the pool", root, s, ok)
			stamp, ok := impl.StampHead("one", pool, h)
			if ok != (at != stampPlace(h)) || ok && !sameSig(stamp, stampByWords("one", pool, h)) || !ok && !isZeroSig(stamp) {
				t.Errorf("StampHead of %v with another's key at %d: %v", h, at, ok)
			}
			isStampOk(t, "another's key in the pool", root, h, stamp, ok)
		}
	}
}

func TestSealsOfOtherForms(t *testing.T) {
	for _, h := range aHeadEach() {
		root, s := sealed(t, "one", h)
		for _, other := range shapedOtherwise(s.Sig) {
			isSealOk(t, "another form", root, impl.Seal{Head: h, Sig: other}, false)
			noSealText(t, "another form", impl.Seal{Head: h, Sig: other})
		}
		_, stamp := stamped(t, "one", h)
		for _, other := range shapedOtherwise(stamp) {
			isStampOk(t, "another form", root, h, other, false)
		}
	}
}

// P14: with one byte turned of any text of it, no seal and no stamp is right.
func TestSealsWithOneByteTurned(t *testing.T) {
	for _, h := range aHeadEach() {
		root, s := sealed(t, "one", h)
		for _, other := range turnedOtherwise(s.Sig) {
			isSealOk(t, "a byte turned", root, impl.Seal{Head: h, Sig: other}, false)
		}
		_, stamp := stamped(t, "one", h)
		for _, other := range turnedOtherwise(stamp) {
			isStampOk(t, "a byte turned", root, h, other, false)
		}
	}
}

func hexDigest(text string) string {
	whole := sha256.Sum256([]byte(text))
	return hex.EncodeToString(whole[:])
}

// The digests were reckoned apart from this program and its tests.
func TestSealsThatAreKnown(t *testing.T) {
	first := impl.Head{House: 1, Epoch: 1, Root: "0123456789abcdef"}
	second := impl.Head{House: 1, Epoch: 2, Root: "fedcba9876543210", Prev: unhexed(t, "da674a28e10153cf2d5523d65aa927f2")}
	for _, c := range []struct {
		head        impl.Head
		size        int
		seal, stamp string
		at          int
	}{
		{first, 340, "70f9a0ead983b9d991bb502ebca8465e10c5a838af646c4833aa44e881fbae6f", "5e165144d354aa2e9e3eda3b4845d3bf3b4a93ef019f68fdc3e21f51c08b605e", 8},
		{second, 356, "3d91617d22645691c567a792b75676933df54365784400f24c60a32341716cfb", "41ffdb8731cfbd9f9824573cf6b161a41479aa9911785b523a92ce6b9f79090d", 9},
	} {
		root, s := sealed(t, "one", c.head)
		isHash(t, "the root of the pool", root, unhexed(t, "e5ac88783ed8c5787295eb60be37b91b"))
		text, ok := impl.SealText(s)
		if len(text) != c.size || hexDigest(text) != c.seal || !ok {
			t.Errorf("SealText of %v: %d bytes, %s, %v", c.head, len(text), hexDigest(text), ok)
		}
		_, stamp := stamped(t, "one", c.head)
		if text, _ := impl.SigText(stamp); stamp.At != c.at || hexDigest(text) != c.stamp {
			t.Errorf("the stamp of %v: at %d, %s", c.head, stamp.At, hexDigest(text))
		}
	}
}

// sealComesBack wants a seal to have the text that the words tell, and to be read from it as it is.
func sealComesBack(t *testing.T, s impl.Seal) string {
	t.Helper()
	text, ok := impl.SealText(s)
	if text != sealTextByWords(s) || !ok {
		t.Fatalf("SealText of the head %v at %d: %x, %v", s.Head, s.Sig.At, text, ok)
	}
	if back, ok := impl.ReadSeal(text); !ok || !sameSeal(back, s) {
		t.Errorf("ReadSeal of the text of %v: %v, %v", s.Head, back, ok)
	}
	return text
}

func TestSealsComeBackFromTheirTexts(t *testing.T) {
	for _, h := range append(rightHeads(), aHeadEach()...) {
		root, s := sealed(t, "one", h)
		text := sealComesBack(t, s)
		head, _ := impl.HeadText(h)
		short, _ := impl.ShortText(head)
		sig, _ := impl.SigText(s.Sig)
		if text != short+sig {
			t.Errorf("SealText of %v is not ShortText of HeadText, and SigText", h)
		}
		back, _ := impl.ReadSeal(text)
		isSealOk(t, "what was read", root, back, true)
	}
}

// A seal's text tells what is there, whether it is right by any root or not: at every place, and with any bytes.
func TestSealTextsOfWhatIsNotRight(t *testing.T) {
	for _, h := range aHeadEach() {
		for at := range impl.PoolSize {
			s := signByWords("one", impl.PoolOf("one"), at, "something else")
			sealComesBack(t, impl.Seal{Head: h, Sig: s})
		}
		_, stamp := stamped(t, "two", h)
		sealComesBack(t, impl.Seal{Head: h, Sig: stamp})
		for _, fill := range []string{"\x00", "\xff"} {
			keys := slices.Repeat([]string{strings.Repeat(fill, 16)}, 8)
			sealComesBack(t, impl.Seal{Head: h, Sig: impl.Sig{At: 15, Open: keys, Shut: keys, Sides: keys[:4]}})
		}
	}
}

func TestSealTextRefuses(t *testing.T) {
	h := aHeadEach()[5]
	_, s := sealed(t, "one", h)
	for _, at := range wrongPlaces() {
		other := sigCopy(s.Sig)
		other.At = at
		noSealText(t, "a Sig at no place", impl.Seal{Head: h, Sig: other})
	}
	noSealText(t, "nothing", impl.Seal{})
	noSealText(t, "a head alone", impl.Seal{Head: h})
	noSealText(t, "a Sig alone", impl.Seal{Sig: s.Sig})
}

func TestReadSealOfCutsAndMore(t *testing.T) {
	for _, h := range aHeadEach() {
		_, s := sealed(t, "one", h)
		text := sealTextByWords(s)
		for size := range len(text) {
			refusesSeal(t, "the beginning of a text", text[:size])
			refusesSeal(t, "the end of a text", text[size+1:])
		}
		for _, more := range []string{"\x00", "\x01", "\xff", "a", turning(16), text} {
			refusesSeal(t, "a text and more", text+more)
			refusesSeal(t, "more and a text", more+text)
		}
		refusesSeal(t, "a Sig alone", sigTextOf(s.Sig))
		refusesSeal(t, "a head and a Sig without a length", headTextByWords(h)+sigTextOf(s.Sig))
		refusesSeal(t, "a head alone", text[:1+len(headTextByWords(h))])
		refusesSeal(t, "a Sig ahead of the head", sigTextOf(s.Sig)+text[:1+len(headTextByWords(h))])
	}
	refusesSeal(t, "no text", "")
	refusesSeal(t, "a very long text", turning(impl.MaxText+1))
}

// withLength has this length ahead of the head, whatever the head has.
func withLength(length string, s impl.Seal) string {
	return length + headTextByWords(s.Head) + sigTextOf(s.Sig)
}

func TestReadSealOfOtherLengths(t *testing.T) {
	for _, h := range aHeadEach() {
		_, s := sealed(t, "one", h)
		size := len(headTextByWords(h))
		for n := range 1000 {
			if n != size {
				refusesSeal(t, "another length of the head", withLength(lengthByWords(n), s))
			}
		}
		low, first := byte(size%128+128), byte(size)
		for _, length := range []string{
			string([]byte{low, 0}), string([]byte{low, 128, 0}), string([]byte{low, 128, 128, 0}), string([]byte{low, 128, 128, 128, 0}),
			string([]byte{low, 128, 128, 128, 128, 0}), string([]byte{low}), string([]byte{first, 0}), string([]byte{0, first}), "\xff\xff\xff\xff\xff\x7f", "\x80\x94\xeb\xdc\x03", "",
		} {
			refusesSeal(t, "a length in another form", withLength(length, s))
		}
	}
}

// A byte taken off the head and given to what is behind it, or the other way round, leaves as many in all.
func TestReadSealOfHeadsCutElsewhere(t *testing.T) {
	for _, h := range aHeadEach() {
		_, s := sealed(t, "one", h)
		text := sealTextByWords(s)
		size := int(text[0])
		for _, n := range []int{size - 1, size + 1, size - 16, size + 16, 0} {
			refusesSeal(t, "a head cut elsewhere", string([]byte{byte(n)})+text[1:])
			refusesSeal(t, "a head cut elsewhere, with a byte less", string([]byte{byte(n)})+text[1:len(text)-1])
			refusesSeal(t, "a head cut elsewhere, with a byte more", string([]byte{byte(n)})+text[1:]+"\x00")
		}
		shorter := lengthByWords(size-1) + headTextByWords(h)[:size-1] + sigTextOf(s.Sig)
		refusesSeal(t, "a head of a byte less", shorter)
		longer := lengthByWords(size+1) + headTextByWords(h) + "\x00" + sigTextOf(s.Sig)
		refusesSeal(t, "a head of a byte more", longer)
	}
}

func TestReadSealOfHeadsThatAreNotRight(t *testing.T) {
	_, s := sealed(t, "one", aHeadEach()[0])
	for _, h := range wrongHeads() {
		head := headTextByWords(h)
		if _, right := readHeadByWords(head); !right {
			refusesSeal(t, "a head that is not right", lengthByWords(len(head))+head+sigTextOf(s.Sig))
		}
	}
	for _, begin := range []string{"\x03\x01", "\xff\x01", "\x00\x00", "\x00\x05", "\x01\x02", "\x02\xff"} {
		refusesSeal(t, "a head that is not right", "\x12"+begin+rootAt(0)+sigTextOf(s.Sig))
	}
	for _, begin := range []string{"\x03\x02", "\xff\x04", "\x00\x00", "\x00\x05", "\x01\x01", "\x02\xff"} {
		refusesSeal(t, "a head that is not right", "\x22"+begin+rootAt(0)+rootAt(1)+sigTextOf(s.Sig))
	}
	for at := impl.PoolSize; at < 256; at++ {
		refusesSeal(t, "a Sig at no place", "\x12\x00\x01"+rootAt(0)+string([]byte{byte(at)})+sigTextOf(s.Sig)[1:])
	}
}

// readSealByWords looks for the seal among all that could have this text: a head has 18 or 34 bytes, and a Sig 321.
func readSealByWords(text string) (impl.Seal, bool) {
	for _, size := range []int{18, 34} {
		if len(text) != 1+size+321 || int(text[0]) != size {
			continue
		}
		head, right := readHeadByWords(text[1 : 1+size])
		s := impl.Seal{Head: head, Sig: impl.Sig{At: int(text[1+size])}}
		for i := range 20 {
			key := text[2+size+16*i : 18+size+16*i]
			switch {
			case i < 8:
				s.Sig.Open = append(s.Sig.Open, key)
			case i < 16:
				s.Sig.Shut = append(s.Sig.Shut, key)
			default:
				s.Sig.Sides = append(s.Sig.Sides, key)
			}
		}
		return s, right && s.Sig.At < 16
	}
	return impl.Seal{}, false
}

// readsSealByWords is whether there is a seal, too.
func readsSealByWords(t *testing.T, text string) bool {
	t.Helper()
	want, right := readSealByWords(text)
	if !right {
		refusesSeal(t, "what no seal has as its text", text)
		return false
	}
	s, ok := impl.ReadSeal(text)
	if !ok || !sameSeal(s, want) {
		t.Errorf("ReadSeal of %x: %v, %v", text, s, ok)
	}
	if back, ok := impl.SealText(s); !ok || back != text {
		t.Errorf("SealText of what ReadSeal took %x to be: %x, %v", text, back, ok)
	}
	return true
}

func TestReadSealWithOneByteTurned(t *testing.T) {
	for _, h := range aHeadEach() {
		root, s := sealed(t, "one", h)
		text := sealTextByWords(s)
		for at := range len(text) {
			for bit := range 8 {
				other := turned(text, at, 1<<bit)
				if !readsSealByWords(t, other) {
					continue
				}
				back, _ := impl.ReadSeal(other)
				same := sameSig(back.Sig, s.Sig) && back.Epoch == h.Epoch && impl.SignBitsOf(headHashByWords(back.Head)) == impl.SignBitsOf(headHashByWords(h))
				isSealOk(t, "a text with a byte turned", root, back, same)
			}
		}
	}
}

func TestReadSealOfEveryFirstBytes(t *testing.T) {
	_, s := sealed(t, "one", aHeadEach()[1])
	rest := headTextByWords(s.Head)[2:] + sigTextOf(s.Sig)
	for size := range 256 {
		for house := range 5 {
			for epoch := range 7 {
				begin := string([]byte{byte(size), byte(house), byte(epoch)})
				readsSealByWords(t, begin+rest)
				readsSealByWords(t, begin+rest[16:])
			}
		}
	}
}

// Whatever bytes ReadSeal takes are the SealText of what it answers.
func TestReadSealOfDrawnTexts(t *testing.T) {
	state := uint64(14)
	taken := 0
	for range 20000 {
		size := []int{0, 1, 18, 19, 321, 339, 340, 340, 340, 340, 341, 355, 356, 356, 356, 356, 357, 400}[drawn(&state, 18)]
		text := make([]byte, size)
		for i := range text {
			text[i] = byte(drawn(&state, 256))
			switch i {
			case 0:
				text[i] = []byte{18, 34, 17, 35, 146}[drawn(&state, 5)]
			case 1, 2:
				text[i] = byte(drawn(&state, 6))
			case 19, 35:
				text[i] = byte(drawn(&state, 20))
			}
		}
		if readsSealByWords(t, string(text)) {
			taken++
		}
	}
	if taken < 100 {
		t.Errorf("just %d of the drawn texts are those of seals", taken)
	}
}

func textsOfSig(s impl.Sig) []string {
	return slices.Concat(s.Open, s.Shut, s.Sides)
}

func textsOfSeal(s impl.Seal) []string {
	return append(textsOfHeads(s.Head), textsOfSig(s.Sig)...)
}

func TestSealsAnswerNewMemory(t *testing.T) {
	pool := impl.PoolOf("one")
	was := slices.Clone(pool)
	for _, house := range rightHouses() {
		for _, h := range ownHeads(house, 4) {
			s, _ := impl.SealHead("one", pool, h)
			noneShares(t, "a seal and its pool", textsOfSeal(s), pool)
			noneShares(t, "a seal and the head that was handed in", textsOfSeal(s), textsOfHeads(h))
			ownLists(t, s.Sig)
			text, _ := impl.SealText(s)
			noneShares(t, "a seal's text and the seal", []string{text}, textsOfSeal(s))
			read, _ := impl.ReadSeal(text)
			noneShares(t, "what was read and its text", textsOfSeal(read), []string{text})
			ownLists(t, read.Sig)
			stamp, _ := impl.StampHead("one", pool, h)
			noneShares(t, "a stamp and its pool", textsOfSig(stamp), pool)
			noneShares(t, "a stamp and its head", textsOfSig(stamp), textsOfHeads(h))
			ownLists(t, stamp)
			for _, list := range append(sigLists(&s.Sig), sigLists(&stamp)...) {
				clear((*list)[:cap(*list)])
			}
			if !slices.Equal(pool, was) {
				t.Fatal("a pool goes with what was sealed with it")
			}
		}
	}
}

// What is handed in may be pieces of longer lists, whose spare room is somebody else's.
func TestSealsWriteIntoNoArgument(t *testing.T) {
	room := slices.Repeat(impl.PoolOf("one"), 2)
	was := slices.Clone(room)
	for _, h := range append(aHeadEach(), impl.Head{}) {
		for _, size := range []int{0, 15, 16, 17, 32} {
			impl.SealHead("one", room[:size], h)
			impl.StampHead("one", room[:size], h)
			impl.SealHead("two", room[:size], h)
			impl.StampHead("two", room[:size], h)
		}
	}
	if !slices.Equal(room, was) {
		t.Fatal("a pool, or the room behind it, was written into")
	}
	for _, h := range aHeadEach() {
		root, s := sealed(t, "one", h)
		_, stamp := stamped(t, "one", h)
		for _, sig := range []impl.Sig{s.Sig, stamp} {
			lists := sigCopy(sig)
			for _, list := range sigLists(&lists) {
				*list = append(*list, "spare", "room")
			}
			kept := sigCopy(lists)
			given := impl.Sig{At: sig.At, Open: lists.Open[:8], Shut: lists.Shut[:8], Sides: lists.Sides[:4]}
			isSealOk(t, "pieces of longer lists", root, impl.Seal{Head: h, Sig: given}, sig.At == s.Sig.At)
			isStampOk(t, "pieces of longer lists", root, h, given, sig.At == stamp.At)
			sealComesBack(t, impl.Seal{Head: h, Sig: given})
			if !sameSig(lists, kept) {
				t.Fatal("a signature, or the room behind it, was written into")
			}
		}
	}
}

// Every call answers from what it is given alone: again the same, whatever was refused or changed between.
func TestSealsKeepNothing(t *testing.T) {
	for range 3 {
		for _, h := range aHeadEach() {
			pool := impl.PoolOf("one")
			root, s := sealed(t, "one", h)
			if !sameSeal(s, sealByWords("one", pool, h)) {
				t.Errorf("the seal of %v is another one now", h)
			}
			refusesToSeal(t, "another seed between", "two", pool, h)
			refusesSeal(t, "a torn text between", sealTextByWords(s)[:100])
			_, stamp := stamped(t, "one", h)
			if !sameSig(stamp, stampByWords("one", pool, h)) {
				t.Errorf("the stamp of %v is another one now", h)
			}
			isSealOk(t, "the same again", root, s, true)
			isStampOk(t, "the same again", root, h, stamp, true)
			clear(s.Sig.Open)
			clear(stamp.Sides)
			isSealOk(t, "what was cleared", root, s, false)
			isStampOk(t, "what was cleared", root, h, stamp, false)
		}
	}
}
