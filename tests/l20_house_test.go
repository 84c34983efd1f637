package tests

import (
	"math"
	"runtime"
	"slices"
	"strings"
	"sync"
	"testing"

	"loop.example/g00284/impl"
)

// moveOf is of every kind but HvTake.
func moveOf(kind, node, at int) impl.Move {
	return impl.Move{Kind: kind, Node: node, At: at}
}

func taking(u impl.Change) impl.Move {
	return impl.Move{Kind: 1, Change: u}
}

// begin, give and tick are told to the coordinator alone; carry is of the first text there is.
var begin, give, tick, carry = moveOf(2, 0, 0), moveOf(3, 0, 0), moveOf(4, 0, 0), moveOf(5, 0, 0)

func repeated(count int, m impl.Move) []impl.Move {
	return slices.Repeat([]impl.Move{m}, count)
}

// changesIn are so many of each shard of a list in 2 to k parts, shard by shard.
func changesIn(k, count int) []impl.Change {
	var list []impl.Change
	for at := range partsByWords(k) {
		list = append(list, shardPlace{k, at}.changes(1+at*count, count)...)
	}
	return list
}

func takingAll(list []impl.Change) []impl.Move {
	var moves []impl.Move
	for _, u := range list {
		moves = append(moves, taking(u))
	}
	return moves
}

func houseByWords(no, k int) impl.House {
	h := impl.House{Coord: coordByWords(no, k, impl.Disk{})}
	for at := range partsByWords(k) {
		h.Servers = append(h.Servers, serverByWords(at, k, impl.Disk{}))
	}
	return h
}

func moveOkByWords(m impl.Move) bool {
	if !slices.Contains([]int{1, 2, 3, 4, 5, 6, 7, 8, 9, 10}, m.Kind) || !slices.Contains([]int{0, 1, 2, 3, 4}, m.Node) || m.At < 0 {
		return false
	}
	if m.Kind == 1 {
		return changeOkByWords(m.Change)
	}
	return m.Change.Id == 0 && m.Change.Name == "" && m.Change.Value == ""
}

func standsByWords(h impl.House) bool {
	return partsByWords(h.Coord.K) > 0 && len(h.Servers) == partsByWords(h.Coord.K)
}

func stepByWords(h impl.House, m impl.Move) impl.House {
	h = houseCopy(h)
	if !moveOkByWords(m) || !standsByWords(h) {
		return h
	}
	h, code := codeByWords(h, m)
	h.Codes = append(h.Codes, code)
	return h
}

// codeByWords wants a house of its own, as it writes into its lists.
func codeByWords(h impl.House, m impl.Move) (impl.House, int) {
	var told []impl.Letter
	code, shard, node := 0, 0, m.Node
	for node > len(h.Servers) {
		node -= len(h.Servers) + 1
	}
	switch m.Kind {
	case 1:
		shard = shardByWords(m.Change.Name, h.Coord.K)
		h.Servers[shard], code = takeByWords(h.Servers[shard], m.Change)
		return h, code
	case 2:
		h.Coord, told = beginByWords(h.Coord)
	case 3:
		h.Coord, told = giveUpByWords(h.Coord)
	case 4:
		told = tickByWords(h.Coord)
	case 9, 10:
		return powerByWords(h, node, m.Kind == 9, m.At)
	default:
		return netByWords(h, m.Kind, m.At)
	}
	if len(told) == 0 {
		code = 1
	}
	return toldByWords(h, told), code
}

func toldByWords(h impl.House, told []impl.Letter) impl.House {
	for _, x := range told {
		if len(h.Net) < 120 {
			h.Net = append(h.Net, letterTextByWords(x))
		}
	}
	return h
}

// powerByWords is whatever goes off or comes on.
func powerByWords(h impl.House, node int, goes bool, left int) (impl.House, int) {
	lefts := slices.Repeat([]int{left}, 30)
	if node == 0 {
		c := h.Coord
		switch {
		case c.Up != goes:
			return h, 1
		case goes:
			h.Coord = fallCoordByWords(c, lefts)
		default:
			h.Coord = coordByWords(c.House, c.K, c.Disk)
		}
		h.Coord.Pool = c.Pool
		return h, 0
	}
	s := h.Servers[node-1]
	switch {
	case s.Up != goes:
		return h, 1
	case goes:
		h.Servers[node-1] = fallByWords(s, lefts)
	default:
		h.Servers[node-1] = serverByWords(s.At, s.K, s.Disk)
	}
	return h, 0
}

func netByWords(h impl.House, kind, at int) (impl.House, int) {
	if len(h.Net) == 0 {
		return h, 1
	}
	place := at - at/len(h.Net)*len(h.Net)
	text := h.Net[place]
	rest := slices.Concat(h.Net[:place], h.Net[place+1:])
	_, still := readLetterByWords(text)
	switch {
	case kind == 5:
		h.Net = rest
		return carriedByWords(h, text)
	case kind == 6:
		h.Net = rest
	case kind == 7 && len(h.Net) < 120:
		h.Net = append(h.Net, text)
	case kind == 8 && still:
		h.Net[place] = turned(text, at-at/len(text)*len(text), 1)
	default:
		return h, 1
	}
	return h, 0
}

func carriedByWords(h impl.House, text string) (impl.House, int) {
	var told []impl.Letter
	x, right := readLetterByWords(text)
	switch {
	case !right || x.To > len(h.Servers):
		return h, 1
	case x.To == 0 && h.Coord.Up:
		h.Coord, told = hearCoordByWords(h.Coord, x)
	case x.To > 0 && h.Servers[x.To-1].Up:
		h.Servers[x.To-1], told = hearByWords(h.Servers[x.To-1], x)
	default:
		return h, 1
	}
	return toldByWords(h, told), 0
}

func calmByWords(h impl.House, rounds int) impl.House {
	if !standsByWords(h) {
		return h
	}
	codes := slices.Clone(h.Codes)
	for node := range len(h.Servers) + 1 {
		h = stepByWords(h, moveOf(10, node, 0))
	}
	h = stepByWords(stepByWords(h, give), begin)
	for range max(0, min(rounds, 20)) {
		for h = stepByWords(h, tick); len(h.Net) > 0; {
			h = stepByWords(h, carry)
		}
	}
	h.Codes = codes
	return h
}

func viewByWords(h impl.House, epoch int) ([]impl.Leaf, bool) {
	var parts [][]impl.Leaf
	for _, s := range h.Servers {
		if epoch < 0 || epoch > len(s.Views)-1 {
			return nil, false
		}
		parts = append(parts, s.Views[epoch])
	}
	return allByWords(parts)
}

// houseCopy shares no list with the house.
func houseCopy(h impl.House) impl.House {
	h.Coord, h.Servers, h.Net, h.Codes = coordCopy(h.Coord), slices.Clone(h.Servers), slices.Clone(h.Net), slices.Clone(h.Codes)
	for i, s := range h.Servers {
		h.Servers[i] = serverCopy(s)
	}
	return h
}

func sameHouse(a, b impl.House) bool {
	return sameCoord(a.Coord, b.Coord) && slices.EqualFunc(a.Servers, b.Servers, sameServer) && slices.Equal(a.Net, b.Net) && slices.Equal(a.Codes, b.Codes)
}

func isHouse(t *testing.T, what string, got, want impl.House) {
	t.Helper()
	isCoord(t, what, got.Coord, want.Coord)
	if len(got.Servers) != len(want.Servers) {
		t.Fatalf("%s: %d servers; want %d", what, len(got.Servers), len(want.Servers))
	}
	for i, s := range got.Servers {
		isServer(t, what, s, want.Servers[i])
	}
	if !slices.Equal(got.Net, want.Net) {
		t.Fatalf("%s: on the net there is %.400q; want %.400q", what, got.Net, want.Net)
	}
	if !slices.Equal(got.Codes, want.Codes) {
		t.Fatalf("%s: the codes are %v; want %v", what, got.Codes, want.Codes)
	}
}

// houseOf wants a house that there is.
func houseOf(t *testing.T, no, k int) impl.House {
	t.Helper()
	h, ok := impl.HouseNew(no, k)
	if !ok {
		t.Fatalf("there is no house %d with K %d", no, k)
	}
	return h
}

// steps holds a move against the chapter's words, and the house that was handed in against what it was.
func steps(t *testing.T, what string, h impl.House, m impl.Move) impl.House {
	t.Helper()
	was := houseCopy(h)
	next := impl.StepHouse(h, m)
	what += ", " + shown(m)
	isHouse(t, what, next, stepByWords(was, m))
	isHouse(t, what+": what was handed in, behind it", h, was)
	return next
}

// plays wants each move to have this code.
func plays(t *testing.T, what string, h impl.House, code int, moves ...impl.Move) impl.House {
	t.Helper()
	for i, m := range moves {
		was := len(h.Codes)
		if h = steps(t, what, h, m); len(h.Codes) != was+1 || h.Codes[was] != code {
			t.Fatalf("%s: the move %d, %v, has the codes %v; want %d", what, i, m, h.Codes[was:], code)
		}
	}
	return h
}

// staysAsItIs wants not even a code.
func staysAsItIs(t *testing.T, what string, h impl.House, m impl.Move) {
	t.Helper()
	isHouse(t, what, steps(t, what, h, m), h)
}

// changesCodeOnly wants nothing to be done.
func changesCodeOnly(t *testing.T, what string, h impl.House, m impl.Move) {
	t.Helper()
	next := plays(t, what, h, 1, m)
	next.Codes = next.Codes[:len(h.Codes)]
	isHouse(t, what, next, h)
}

func calms(t *testing.T, what string, h impl.House, rounds int) impl.House {
	t.Helper()
	was := houseCopy(h)
	calm := impl.CalmHouse(h, rounds)
	isHouse(t, what+", calm", calm, calmByWords(was, rounds))
	isHouse(t, what+": what was handed in, when it is calm", h, was)
	return calm
}

func looksAt(t *testing.T, what string, h impl.House, epoch int) ([]impl.Leaf, bool) {
	t.Helper()
	was := houseCopy(h)
	want, right := viewByWords(h, epoch)
	got, ok := impl.ViewAt(h, epoch)
	sameLeaves(t, what+", the epoch "+impl.Decimal(epoch), got, ok, want, right)
	isHouse(t, what+": what was looked at", h, was)
	return got, ok
}

// carriedAll carries the first text till there is none; each is heard.
func carriedAll(t *testing.T, what string, h impl.House) impl.House {
	t.Helper()
	for len(h.Net) > 0 {
		h = plays(t, what, h, 0, carry)
	}
	return h
}

// shutHouse begins an epoch, and carries all there is till it is closed everywhere.
func shutHouse(t *testing.T, what string, h impl.House) impl.House {
	t.Helper()
	next := carriedAll(t, what, plays(t, what, h, 0, begin))
	if len(next.Coord.Seals) != len(h.Coord.Seals)+1 || slices.Contains(next.Coord.Dones, false) {
		t.Fatalf("%s: nothing is closed: %s", what, shownCoord(next.Coord))
	}
	return next
}

// housesOf are all of one house, at every point of its life, by what they are.
func housesOf(t *testing.T, no, k int) map[string]impl.House {
	t.Helper()
	parts, u := partsByWords(k), changesIn(k, 6)
	list := map[string]impl.House{"fresh": houseOf(t, no, k)}
	go1 := func(what, from string, moves ...impl.Move) impl.House {
		list[what] = plays(t, what, list[from], 0, moves...)
		return list[what]
	}
	go1("with changes", "fresh", takingAll(u[:2])...)
	go1("begun", "with changes", begin)
	go1("voted", "begun", repeated(parts, carry)...)
	go1("all but one vote", "voted", repeated(parts-1, carry)...)
	go1("closed", "voted", repeated(parts, carry)...)
	go1("committed", "closed", repeated(parts, carry)...)
	go1("one epoch", "committed", repeated(parts, carry)...)
	go1("given up", "all but one vote", give)
	go1("spoilt", "begun", moveOf(8, 0, 3), tick)
	go1("one fallen, voted", "voted", moveOf(9, parts, 0))
	go1("all fallen", "closed", fallOfAll(parts)...)
	go1("one epoch, more changes", "one epoch", takingAll(u[2:5])...)
	go1("two begun", "one epoch, more changes", begin, tick, give, begin)
	list["two epochs"] = shutHouse(t, "two", list["one epoch, more changes"])
	list["four epochs"] = shutHouse(t, "four", shutHouse(t, "three", list["two epochs"]))
	go1("four epochs, with a change", "four epochs", taking(u[5]))
	full := list["all but one vote"]
	full.Net = append(slices.Clone(full.Net), manyTexts(120-len(full.Net))...)
	list["with a full net"] = full
	list["with a nearly full net"] = withNet(list["begun"], append(slices.Clone(list["begun"].Net), manyTexts(119-parts)...)...)
	return list
}

func fallOfAll(parts int) []impl.Move {
	var moves []impl.Move
	for node := range parts + 1 {
		moves = append(moves, moveOf(9, node, 7))
	}
	return moves
}

// manyTexts are letters of all kinds, of any epoch and try; one in seven is none.
func manyTexts(count int) []string {
	var list []string
	letters := rightLetters()
	for i := range count {
		list = append(list, letterTextByWords(letters[(i*37)%len(letters)]))
		if i%7 == 6 {
			list[i] = turned(list[i], i%len(list[i]), 1)
		}
	}
	return list
}

func withNet(h impl.House, texts ...string) impl.House {
	h = houseCopy(h)
	h.Net = slices.Clone(texts)
	return h
}

// movesFor are of every kind, at every node and the places about the ends of what there is.
func movesFor(h impl.House) []impl.Move {
	count := len(h.Net)
	var list []impl.Move
	for _, kind := range []int{2, 3, 4} {
		list = append(list, moveOf(kind, 0, 0), moveOf(kind, 4, math.MaxInt))
	}
	for _, kind := range []int{5, 6, 7, 8} {
		for _, at := range []int{0, 1, 2, 5, 9, 24, count - 1, count, count + 1, 3*count + 2, math.MaxInt, math.MaxInt - 1} {
			if at >= 0 {
				list = append(list, moveOf(kind, at%5, at))
			}
		}
	}
	for node := range 5 {
		for _, at := range []int{0, 1, 9, math.MaxInt} {
			list = append(list, moveOf(9, node, at), moveOf(10, node, at))
		}
	}
	for _, u := range []impl.Change{changeOf(1, "n10", "v1"), changeOf(2, "n10", "v"), changeOf(90, "ann", "k"), changeOf(91, "bob", ""), changeOf(92, "cat", "k"), changeOf(93, "dan", "k")} {
		list = append(list, taking(u), impl.Move{Kind: 1, Node: 4, At: 9, Change: u})
	}
	for _, s := range h.Servers {
		list = append(list, takingAll(s.All)...)
	}
	return list
}

func TestHouseConstants(t *testing.T) {
	kinds := []int{impl.HvTake, impl.HvBegin, impl.HvGive, impl.HvTick, impl.HvCarry, impl.HvLose, impl.HvTwice, impl.HvSpoil, impl.HvFall, impl.HvRise}
	if !slices.Equal(kinds, []int{1, 2, 3, 4, 5, 6, 7, 8, 9, 10}) || impl.MaxMoves != 90 || impl.MaxNet != 120 {
		t.Error("a constant of chapter 20 is another one")
	}
}

func TestHouseNew(t *testing.T) {
	for _, no := range rightHouses() {
		for _, k := range rightSplits() {
			h := houseOf(t, no, k)
			isHouse(t, "a new house", h, houseByWords(no, k))
			if !impl.CoordOk(h.Coord) || len(h.Servers) != 1<<k || len(h.Net) != 0 || len(h.Codes) != 0 {
				t.Errorf("the house %d with K %d has %d servers, %d texts and the codes %v", no, k, len(h.Servers), len(h.Net), h.Codes)
			}
			for at, s := range h.Servers {
				isServerOk(t, "a new house's", s, true)
				if s.At != at || !s.Up || len(s.Disk.Files) != 0 {
					t.Errorf("at %d there is %s", at, shown(s))
				}
			}
		}
	}
}

func TestHousesThatThereAreNot(t *testing.T) {
	is := func(no, k int) {
		t.Helper()
		h, ok := impl.HouseNew(no, k)
		run, ran := impl.RunHouse(no, k, []impl.Move{begin})
		if ok || ran || !sameHouse(h, impl.House{}) || !sameHouse(run, impl.House{}) {
			t.Errorf("the house %d with K %d is %v, %v, and run %v, %v", no, k, h, ok, run, ran)
		}
	}
	for _, no := range wrongHouses() {
		for _, k := range append(wrongSplits(), rightSplits()...) {
			is(no, k)
		}
	}
	for _, k := range wrongSplits() {
		for _, no := range rightHouses() {
			is(no, k)
		}
	}
}

func isMoveOk(t *testing.T, m impl.Move, want bool) {
	t.Helper()
	if got := impl.MoveOk(m); got != want || got != moveOkByWords(m) {
		t.Errorf("MoveOk of %s is %v", shown(m), got)
	}
}

func TestMoveOk(t *testing.T) {
	u := changeOf(1, "ann", "k1")
	for kind := 1; kind <= 10; kind++ {
		for node := 0; node <= 4; node++ {
			for _, at := range []int{0, 1, 7, 119, 120, 1 << 32, math.MaxInt} {
				isMoveOk(t, moveOf(kind, node, at), kind != 1)
				isMoveOk(t, impl.Move{Kind: kind, Node: node, At: at, Change: u}, kind == 1)
			}
		}
		for _, node := range []int{-1, -4, 5, 6, 256, 257, 1 << 32, math.MaxInt, math.MinInt} {
			isMoveOk(t, moveOf(kind, node, 0), false)
			isMoveOk(t, impl.Move{Kind: kind, Node: node, Change: u}, false)
		}
		for _, at := range []int{-1, -2, -256, -1 << 32, math.MinInt} {
			isMoveOk(t, moveOf(kind, 0, at), false)
			isMoveOk(t, impl.Move{Kind: kind, At: at, Change: u}, false)
		}
	}
	for _, kind := range []int{0, 11, -1, 12, 256, 257, 266, 1<<32 + 2, -1<<32 + 2, math.MaxInt, math.MinInt} {
		isMoveOk(t, moveOf(kind, 0, 0), false)
		isMoveOk(t, impl.Move{Kind: kind, Change: u}, false)
	}
	isMoveOk(t, impl.Move{}, false)
}

func TestMoveOkOfChanges(t *testing.T) {
	for _, u := range rightChanges() {
		isMoveOk(t, impl.Move{Kind: 1, Node: 4, Change: u}, true)
		isMoveOk(t, impl.Move{Kind: 2, Node: 4, Change: u}, false)
	}
	for _, u := range wrongChanges() {
		isMoveOk(t, impl.Move{Kind: 1, Change: u}, false)
		isMoveOk(t, impl.Move{Kind: 5, Change: u}, u == impl.Change{})
	}
	for kind := 2; kind <= 10; kind++ {
		isMoveOk(t, impl.Move{Kind: kind, Change: changeOf(1, "", "")}, false)
		isMoveOk(t, impl.Move{Kind: kind, Change: changeOf(-1, "", "")}, false)
		isMoveOk(t, impl.Move{Kind: kind, Change: changeOf(0, "a", "")}, false)
		isMoveOk(t, impl.Move{Kind: kind, Change: changeOf(0, "", "a")}, false)
	}
}

// What is told stands on the net as bytes that are known.
func TestNetBytes(t *testing.T) {
	h := houseOf(t, 0, 1)
	h.Coord.Try = 199
	h = plays(t, "an epoch", h, 0, begin)
	net := func(what string, want ...string) {
		t.Helper()
		var texts []string
		for _, text := range want {
			texts = append(texts, sealedByWords(text))
		}
		if !slices.Equal(h.Net, texts) {
			t.Fatalf("%s: on the net there is %q; want %q", what, h.Net, texts)
		}
	}
	net("begun", "\x01\x00\x01\x01\xc8\x01", "\x01\x00\x02\x01\xc8\x01")
	root := func(shard int) string { return impl.ShardRoot(nil, 1, shard, 16) }
	h = plays(t, "an epoch", h, 0, carry)
	net("one asked", "\x01\x00\x02\x01\xc8\x01", "\x02\x01\x00\x01\xc8\x01"+root(0))
	h = plays(t, "an epoch", h, 0, carry, moveOf(5, 0, 1))
	net("both asked, one vote heard", "\x02\x01\x00\x01\xc8\x01"+root(0))
	h = plays(t, "an epoch", h, 0, carry)
	net("closed", "\x04\x00\x01\x01\xc8\x01", "\x04\x00\x02\x01\xc8\x01")
	h = plays(t, "an epoch", h, 0, carry)
	net("one committed", "\x04\x00\x02\x01\xc8\x01", "\x05\x01\x00\x01\xc8\x01")
	h = plays(t, "an epoch", h, 0, moveOf(5, 4, 1), begin, give)
	net("one done, given up", "\x04\x00\x02\x01\xc8\x01", "\x01\x00\x01\x02\xc9\x01", "\x01\x00\x02\x02\xc9\x01", "\x03\x00\x01\x02\xc9\x01", "\x03\x00\x02\x02\xc9\x01")
}

// Every kind of move, at every point of a house's life.
func TestEveryMoveInEveryHouse(t *testing.T) {
	for _, k := range rightSplits() {
		for what, h := range housesOf(t, 2-k, k) {
			for _, m := range movesFor(h) {
				steps(t, what, h, m)
			}
		}
	}
}

func wrongMoves() []impl.Move {
	u := changeOf(1, "ann", "k1")
	return []impl.Move{{}, {Kind: 11}, {Kind: -1}, moveOf(2, -1, 0), moveOf(2, 5, 0), moveOf(9, -1, 0), moveOf(9, 5, 0), moveOf(10, -3, 0), moveOf(10, 5, 0), moveOf(5, 0, -1), moveOf(9, 0, -1), moveOf(8, 0, math.MinInt), {Kind: 1}, {Kind: 1, Change: changeOf(0, "ann", "k1")}, {Kind: 1, Change: changeOf(1, "Ann ", "k1")}, {Kind: 2, Change: u}, {Kind: 10, Change: u}, {Kind: 1, Node: 5, Change: u}, {Kind: 1, Node: -1, Change: u}, {Kind: 1, At: -1, Change: u}}
}

func TestStepHouseOfWrongMoves(t *testing.T) {
	for _, k := range rightSplits() {
		for what, h := range housesOf(t, k, k) {
			for _, m := range wrongMoves() {
				staysAsItIs(t, what, h, m)
			}
		}
	}
}

// wrongHousesByWords have as many Servers as their K does not tell, or a K that is none.
func wrongHousesByWords(t *testing.T) []impl.House {
	t.Helper()
	var list []impl.House
	for _, k := range rightSplits() {
		h := plays(t, "begun", houseOf(t, 1, k), 0, begin, moveOf(9, 1, 0))
		for count := range 10 {
			if other := houseCopy(h); count != 1<<k {
				other.Servers = slices.Repeat(other.Servers, 10)[:count]
				list = append(list, other)
			}
		}
		for _, n := range append(wrongSplits(), -1<<63, 1, 0, 2) {
			if other := houseCopy(h); n != k {
				other.Coord.K = n
				list = append(list, other)
				eight := houseCopy(other)
				if eight.Servers = slices.Repeat(eight.Servers, 8)[:8]; n == 3 {
					list = append(list, eight)
				}
			}
		}
	}
	return append(list, impl.House{}, impl.House{Net: manyTexts(3), Codes: []int{5}}, impl.House{Coord: impl.CoordNew(0, 0, impl.Disk{})})
}

func TestHousesWithOtherServersStayAsTheyAre(t *testing.T) {
	moves := []impl.Move{taking(changeOf(1, "ann", "k1")), begin, give, tick, carry, moveOf(6, 0, 0), moveOf(7, 0, 0), moveOf(8, 0, 0), moveOf(9, 0, 0), moveOf(9, 1, 0), moveOf(10, 0, 0), moveOf(10, 1, 0), {}}
	for _, h := range wrongHousesByWords(t) {
		what := impl.Decimal(len(h.Servers)) + " servers, K " + impl.Decimal(h.Coord.K)
		for _, m := range moves {
			staysAsItIs(t, what, h, m)
		}
		for _, rounds := range []int{0, 1, 20} {
			isHouse(t, what, calms(t, what, h, rounds), h)
		}
	}
}

// A change is of its own shard, whatever the Node.
func TestHvTake(t *testing.T) {
	for _, k := range rightSplits() {
		h := houseOf(t, 1, k)
		for i, u := range changesIn(k, 5) {
			h = plays(t, "a change", h, 0, impl.Move{Kind: 1, Node: i % 5, At: i * 7, Change: u})
			if all := h.Servers[i/5].All; len(all) != i%5+1 || all[i%5] != u {
				t.Fatalf("K %d: %v is not taken in by the shard %d", k, u, i/5)
			}
			twice := plays(t, "the same change", h, 0, impl.Move{Kind: 1, Node: (i + 1) % 5, Change: u})
			twice.Codes = h.Codes
			isHouse(t, "the same change", twice, h)
			other := u
			other.Value += "x"
			changesCodeOnly(t, "another one with its Id", h, taking(other))
			changesCodeOnly(t, "the same one, when its shard is not up", plays(t, "a fall", h, 0, moveOf(9, 1+i/5, 9)), taking(u))
			plays(t, "the same one, when all else are not up", plays(t, "a fall", h, 0, othersFall(k, i/5)...), 0, taking(u))
		}
		if len(h.Net) != 0 {
			t.Errorf("K %d: a change puts %q on the net", k, h.Net)
		}
	}
}

func othersFall(k, shard int) []impl.Move {
	moves := []impl.Move{moveOf(9, 0, 0)}
	for at := range partsByWords(k) {
		if at != shard {
			moves = append(moves, moveOf(9, 1+at, 0))
		}
	}
	return moves
}

func TestHvTakeOfAShardThatIsFull(t *testing.T) {
	for _, p := range shardPlaces() {
		u := p.changes(1, 13)
		h := plays(t, "as many as wait", houseOf(t, 0, p.k), 0, takingAll(u[:12])...)
		changesCodeOnly(t, "one more", h, taking(u[12]))
		plays(t, "one that is there", h, 0, taking(u[3]))
		for _, name := range p.otherNames() {
			plays(t, "one of another shard", h, 0, taking(changeOf(99, name, "v")))
		}
		plays(t, "one more behind an epoch", shutHouse(t, "an epoch", h), 0, taking(u[12]))
	}
}

// An Id may be there once in each shard, as shards ask nobody.
func TestIdsAreOfAShard(t *testing.T) {
	h := houseOf(t, 1, 2)
	for at := range 4 {
		h = plays(t, "the same Id", h, 0, taking(changeOf(7, shardPlace{2, at}.names(1)[0], "v")))
	}
	calm := calms(t, "the same Id", h, 3)
	if view, ok := looksAt(t, "the same Id", calm, 1); !ok || len(view) != 4 {
		t.Errorf("%v, %v", view, ok)
	}
}

// Where nothing is told the code is 1, whatever the node.
func TestMovesThatTellNothing(t *testing.T) {
	for _, k := range rightSplits() {
		houses := housesOf(t, 0, k)
		down := plays(t, "a fall", houses["begun"], 0, moveOf(9, 0, 0))
		for _, at := range []int{0, 3, math.MaxInt} {
			for node := range 5 {
				changesCodeOnly(t, "asking already", houses["begun"], moveOf(2, node, at))
				changesCodeOnly(t, "four epochs", houses["four epochs"], moveOf(2, node, at))
				changesCodeOnly(t, "not asking", houses["fresh"], moveOf(3, node, at))
				changesCodeOnly(t, "not asking any more", houses["closed"], moveOf(3, node, at))
				changesCodeOnly(t, "nothing to be asked", houses["with changes"], moveOf(4, node, at))
				changesCodeOnly(t, "all done", houses["one epoch"], moveOf(4, node, at))
				for kind := 2; kind <= 4; kind++ {
					changesCodeOnly(t, "not up", down, moveOf(kind, node, at))
				}
			}
		}
		last := houseCopy(houses["one epoch"])
		last.Coord.Try = 1000
		changesCodeOnly(t, "the last try", last, begin)
		last.Coord.Try = 999
		plays(t, "the last try but one", last, 0, begin)
		fullFile := houseCopy(houses["fresh"])
		fullFile.Coord = impl.CoordNew(0, k, fullCoordDisk(t, 6))
		changesCodeOnly(t, "no room", fullFile, begin)
	}
}

// Nothing is taken off a net where there is nothing.
func TestMovesOfAnEmptyNet(t *testing.T) {
	for _, k := range rightSplits() {
		houses := housesOf(t, 0, k)
		for _, what := range []string{"fresh", "with changes", "one epoch", "four epochs"} {
			for _, kind := range []int{5, 6, 7, 8} {
				for _, at := range []int{0, 1, 5, math.MaxInt} {
					changesCodeOnly(t, what, houses[what], moveOf(kind, at%5, at))
				}
			}
		}
	}
}

// Places are taken modulo how many texts there are.
func TestPlacesOnTheNet(t *testing.T) {
	h := housesOf(t, 1, 2)["begun"]
	texts := slices.Clone(h.Net)
	for at := range 14 {
		place := at % 4
		rest := slices.Concat(texts[:place], texts[place+1:])
		lost := plays(t, "lost", h, 0, moveOf(6, 0, at))
		carried := plays(t, "carried", h, 0, moveOf(5, 0, at))
		twice := plays(t, "twice", h, 0, moveOf(7, 0, at))
		if !slices.Equal(lost.Net, rest) || !slices.Equal(twice.Net, append(slices.Clone(texts), texts[place])) {
			t.Errorf("at %d: lost, there is %q; twice, %q", at, lost.Net, twice.Net)
		}
		if len(carried.Net) != 4 || !slices.Equal(carried.Net[:3], rest) || carried.Servers[place].Ready.Try != 1 {
			t.Errorf("at %d: carried, there is %q", at, carried.Net)
		}
		lost.Net, twice.Net, lost.Codes, twice.Codes = texts, texts, h.Codes, h.Codes
		isHouse(t, "lost", lost, h)
		isHouse(t, "twice", twice, h)
	}
}

// What nobody hears is taken off all the same.
func TestHvCarryOfWhatNobodyHears(t *testing.T) {
	for _, k := range rightSplits() {
		houses := housesOf(t, 1, k)
		for _, what := range []string{"fresh", "voted", "one epoch", "all fallen"} {
			texts := []string{"", "x", turning(20), strings.Repeat("\x00", 20000), sealedByWords(""), sealedByWords("\x01\x00\x01\x01")}
			for node := partsByWords(k) + 1; node <= 4; node++ {
				for _, kind := range []int{1, 3, 4} {
					texts = append(texts, letterTextByWords(letterOf(kind, node, 1, 1)))
				}
			}
			for _, x := range aLetterEach() {
				texts = append(texts, turned(letterTextByWords(x), x.Try%9, 1), letterTextByWords(x)+"x", letterTextByWords(x)[1:])
				if what == "all fallen" {
					texts = append(texts, letterTextByWords(x))
				}
			}
			for i, text := range texts {
				h := withNet(houses[what], "a", text, "b")
				next := plays(t, what, h, 1, moveOf(5, i%5, 4))
				if !slices.Equal(next.Net, []string{"a", "b"}) {
					t.Errorf("%s: behind %q there is %q", what, text, next.Net)
				}
				next.Net, next.Codes = h.Net, h.Codes
				isHouse(t, what, next, h)
			}
		}
	}
}

// What is heard has the code 0, also where it changes nothing; also from a shard that there is not.
func TestHvCarryOfWhatIsHeard(t *testing.T) {
	for _, k := range rightSplits() {
		for what, h := range housesOf(t, 1, k) {
			if what == "all fallen" || what == "one fallen, voted" {
				continue
			}
			for _, x := range aLetterEach() {
				if x.To > partsByWords(k) {
					continue
				}
				next := plays(t, what, withNet(h, letterTextByWords(x)), 0, carry)
				if x.From > partsByWords(k) {
					next.Codes = h.Codes
					isHouse(t, what+", from a shard that there is not", next, withNet(h))
				}
			}
		}
	}
}

func TestHvTwiceWithoutRoom(t *testing.T) {
	h := houseOf(t, 0, 1)
	for _, count := range []int{1, 2, 118, 119} {
		for _, at := range []int{0, 1, 50, count - 1, count, 7 * count, math.MaxInt} {
			texts := manyTexts(count)
			next := plays(t, "room for one", withNet(h, texts...), 0, moveOf(7, 0, at))
			if !slices.Equal(next.Net, append(texts, texts[at%count])) {
				t.Errorf("of %d the one at %d makes %q", count, at, next.Net)
			}
		}
	}
	for _, count := range []int{120, 121, 130} {
		changesCodeOnly(t, "no room", withNet(h, manyTexts(count)...), moveOf(7, 0, 3))
	}
	// Also what is no letter, or empty, may be there twice.
	for _, text := range []string{"", "x", turning(300)} {
		if next := plays(t, "no letter", withNet(h, text), 0, moveOf(7, 0, 9)); !slices.Equal(next.Net, []string{text, text}) {
			t.Errorf("%q twice is %q", text, next.Net)
		}
	}
}

// Each byte of a letter may be spoilt, once.
func TestHvSpoil(t *testing.T) {
	h := houseOf(t, 0, 1)
	for _, x := range aLetterEach() {
		text := letterTextByWords(x)
		for at := range 2*len(text) + 1 {
			next := plays(t, "a letter", withNet(h, text), 0, moveOf(8, 0, at))
			want := turned(text, at%len(text), 1)
			if !slices.Equal(next.Net, []string{want}) {
				t.Errorf("%q, spoilt at %d, is %q", text, at, next.Net)
			}
			changesCodeOnly(t, "spoilt already", next, moveOf(8, 0, at))
			changesCodeOnly(t, "spoilt already", next, moveOf(8, 0, at+1))
			plays(t, "what is spoilt", next, 1, carry)
		}
	}
	for _, text := range []string{"", "x", turning(30), sealedByWords(""), sealedByWords("x"), sealedByWords("\x01\x00\x05\x01\x01")} {
		changesCodeOnly(t, "no letter", withNet(h, text), moveOf(8, 0, 0))
		changesCodeOnly(t, "no letter", withNet(h, text), moveOf(8, 0, 3))
	}
}

// The same number is the place among the texts and, of its own, that within the text.
func TestHvSpoilOfOneOfThem(t *testing.T) {
	h := houseOf(t, 1, 2)
	var texts []string
	for _, x := range aLetterEach()[:7] {
		texts = append(texts, letterTextByWords(x))
	}
	for at := range 60 {
		want := slices.Clone(texts)
		want[at%7] = turned(texts[at%7], at%len(texts[at%7]), 1)
		if next := plays(t, "one of them", withNet(h, texts...), 0, moveOf(8, 0, at)); !slices.Equal(next.Net, want) {
			t.Errorf("spoilt at %d, there is %q", at, next.Net)
		}
	}
}

// What is told behind MaxNet texts is thrown away, and yet told.
func TestWhatIsToldWithoutRoom(t *testing.T) {
	for _, k := range rightSplits() {
		parts := partsByWords(k)
		houses := housesOf(t, 0, k)
		for what, m := range map[string]impl.Move{"with changes": begin, "all but one vote": give, "begun": tick, "closed": tick, "two begun": tick} {
			for _, count := range []int{119 - parts, 120 - parts, 121 - parts, 117, 118, 119, 120, 121, 125} {
				h := withNet(houses[what], manyTexts(count)...)
				next := plays(t, what, h, 0, m)
				if !slices.Equal(next.Net[:count], h.Net) || len(next.Net) > max(120, count) {
					t.Errorf("%s, with %d texts: %d", what, count, len(next.Net))
				}
				roomy := plays(t, what, withNet(houses[what]), 0, m)
				if told := min(len(roomy.Net), max(0, 120-count)); !slices.Equal(next.Net[count:], roomy.Net[:told]) {
					t.Errorf("%s, with %d texts: %q", what, count, next.Net[count:])
				}
				next.Net, next.Codes = roomy.Net, roomy.Codes
				isHouse(t, what, next, roomy)
			}
		}
	}
}

// What is carried leaves its place to what is told of it.
func TestCarriedWithAFullNet(t *testing.T) {
	for _, k := range rightSplits() {
		parts := partsByWords(k)
		h := housesOf(t, 0, k)["all but one vote"]
		vote := h.Net[len(h.Net)-1]
		for _, count := range []int{116, 117, 118, 119, 120, 121} {
			full := withNet(h, append(manyTexts(count-1), vote)...)
			next := plays(t, "the last vote", full, 0, moveOf(5, 0, count-1))
			if told := max(0, min(parts, 121-count)); len(next.Net) != count-1+told || len(next.Coord.Seals) != 1 {
				t.Errorf("K %d: with %d texts, %d", k, count, len(next.Net))
			}
		}
		full := withNet(housesOf(t, 0, k)["begun"], manyTexts(120)...)
		full.Net[60] = letterTextByWords(letterOf(1, 1, 1, 1))
		next := plays(t, "a prepare", full, 0, moveOf(5, 0, 60+120))
		if x, ok := impl.ReadLetter(next.Net[119]); !ok || x.Kind != 2 || len(next.Net) != 120 {
			t.Errorf("K %d: behind all there is %v", k, x)
		}
	}
}

// Nodes are taken modulo how many there are.
func TestNodesOfAHouse(t *testing.T) {
	for _, k := range rightSplits() {
		h := housesOf(t, 2, k)["begun"]
		count := partsByWords(k) + 1
		for node := range 5 {
			fallen := plays(t, "a fall", h, 0, moveOf(9, node, 5))
			ups := upsOf(fallen)
			if slices.Index(ups, false) != node%count || len(ups) != count || slices.Contains(slices.Delete(ups, node%count, node%count+1), false) {
				t.Errorf("K %d: at the node %d all but %v fall", k, node, upsOf(fallen))
			}
			changesCodeOnly(t, "fallen already", fallen, moveOf(9, node, 5))
			changesCodeOnly(t, "fallen already", fallen, moveOf(9, node%count, 0))
			changesCodeOnly(t, "up already", h, moveOf(10, node, 5))
			risen := plays(t, "a rise", fallen, 0, moveOf(10, node, 9))
			if slices.Contains(upsOf(risen), false) {
				t.Errorf("K %d: the node %d does not rise", k, node)
			}
			for other := range count {
				if other != node%count {
					changesCodeOnly(t, "another one's rise", fallen, moveOf(10, other, 0))
					plays(t, "another one's fall", fallen, 0, moveOf(9, other, 0))
				}
			}
		}
	}
}

// upsOf are told node by node.
func upsOf(h impl.House) []bool {
	ups := []bool{h.Coord.Up}
	for _, s := range h.Servers {
		ups = append(ups, s.Up)
	}
	return ups
}

// Each file has so much left of it; a house may have disks that none of these functions made.
func TestWhatIsLeftOfEachFile(t *testing.T) {
	h := housesOf(t, 1, 1)["closed"]
	h = houseCopy(h)
	for i := range h.Servers {
		log := h.Servers[i].Disk.Files[0]
		log.Text += "more that is not kept"
		h.Servers[i].Disk = diskOf(file("a", turning(30), 4), file("b", turning(9), 9), log, file("z", turning(12), 0))
	}
	log := h.Coord.Disk.Files[0]
	log.Text += "half"
	h.Coord.Disk = diskOf(file("b", turning(20), 1), log, file("d", turning(300), 3))
	for node := range 3 {
		for _, at := range []int{0, 1, 4, 5, 8, 9, 10, 11, 12, 13, 29, 30, 31, 300, 9999, math.MaxInt} {
			fallen := plays(t, "a fall", h, 0, moveOf(9, node, at))
			disk := fallen.Coord.Disk
			if node > 0 {
				disk = fallen.Servers[node-1].Disk
			}
			for i, f := range disk.Files {
				was := append([]impl.Disk{h.Coord.Disk}, h.Servers[0].Disk, h.Servers[1].Disk)[node].Files[i]
				if want := min(max(at, was.Kept), len(was.Text)); f.Text != was.Text[:want] || f.Kept != want {
					t.Errorf("with %d left there are %d bytes of %s", at, len(f.Text), was.Name)
				}
			}
			plays(t, "a rise", fallen, 0, moveOf(10, node, at))
		}
	}
	for _, d := range wrongDisks() {
		other := houseCopy(h)
		other.Servers[0].Disk, other.Coord.Disk = d, d
		for _, m := range []impl.Move{moveOf(9, 0, 3), moveOf(9, 1, 3)} {
			fallen := plays(t, "a wrong disk", other, 0, m)
			plays(t, "a wrong disk", fallen, 0, moveOf(10, m.Node, 3))
		}
	}
}

// The coordinator keeps the Pool that it has, whatever that is.
func TestPoolsStay(t *testing.T) {
	for what, pool := range map[string][]string{"the seed's": poolByWords(1), "another house's": poolByWords(2), "none": nil, "a short one": {"x", ""}, "a turned one": append([]string{turned(poolByWords(1)[0], 3, 1)}, poolByWords(1)[1:]...)} {
		for _, from := range []string{"fresh", "begun", "closed", "one epoch"} {
			h := houseCopy(housesOf(t, 1, 1)[from])
			h.Coord.Pool = pool
			fallen := plays(t, what, h, 0, moveOf(9, 0, 0))
			risen := plays(t, what, fallen, 0, moveOf(10, 0, 0))
			if !slices.Equal(fallen.Coord.Pool, pool) || !slices.Equal(risen.Coord.Pool, pool) {
				t.Errorf("%s: %d keys are fallen, %d risen", what, len(fallen.Coord.Pool), len(risen.Coord.Pool))
			}
			for _, from := range []impl.House{h, fallen, risen} {
				if calm := calms(t, what, from, 2); !slices.Equal(calm.Coord.Pool, pool) {
					t.Errorf("%s: there are %d keys when it is calm", what, len(calm.Coord.Pool))
				}
			}
		}
	}
}

// houseLife is a house, and what it took in, as whoever stands beside it has seen.
type houseLife struct {
	h     impl.House
	taken [][]impl.Change
}

// houseCounts are what drawn lives came to, so that it is seen that they came to something.
type houseCounts struct {
	codes                          [11][2]int
	closed, behind, fallen, calmed int
}

// P20: in drawn lives codes are what the chapter tells, move by move; an epoch is in each shard wholly old or wholly new; when it is calm, all that was taken in is closed.
func TestHousesInDrawnLives(t *testing.T) {
	state, counts := uint64(20), houseCounts{}
	for _, k := range rightSplits() {
		for _, no := range rightHouses() {
			for range 12 {
				life := houseLife{houseOf(t, no, k), make([][]impl.Change, 1<<k)}
				var moves []impl.Move
				for at := range 90 {
					m := drawnHouseMove(&state, life.h)
					moves = append(moves, m)
					life.move(t, m, &counts)
					if at%29 == 17 {
						life.calmsDown(t, &counts)
					}
				}
				run, ok := impl.RunHouse(no, k, moves)
				isHouse(t, "a drawn life, run", run, life.h)
				if life.calmsDown(t, &counts); !ok {
					t.Error("a drawn life is not run")
				}
				counts.closed += len(life.h.Coord.Seals)
			}
		}
	}
	for kind, codes := range counts.codes {
		if kind > 0 && (codes[0] < 40 || codes[1] < 40) {
			t.Errorf("moves of the kind %d have the codes %v", kind, codes)
		}
	}
	if counts.closed < 100 || counts.behind < 1000 || counts.fallen < 1000 || counts.calmed < 300 {
		t.Errorf("drawn lives came to no more than %+v", counts)
	}
}

// drawnHouseMove is mostly of what fits just now.
func drawnHouseMove(state *uint64, h impl.House) impl.Move {
	at, node := drawn(state, 300), drawn(state, 5)
	draw := drawn(state, 64)
	if len(h.Net) == 0 && draw >= 17 {
		draw = drawn(state, 64)
	}
	switch {
	case draw < 8:
		return impl.Move{Kind: 1, Node: node, At: at, Change: drawnTake(state, h)}
	case draw < 12:
		return moveOf(2, node, at)
	case draw == 12:
		return moveOf(3, node, at)
	case draw < 17:
		return moveOf(4, node, at)
	case draw < 36:
		return moveOf(5, node, at)
	case draw < 52:
		return moveOf(5, node, 0)
	case draw < 55:
		return moveOf([]int{6, 7, 8}[draw%3], node, at)
	case draw < 57:
		return moveOf(9, node, []int{0, at, math.MaxInt}[at%3])
	}
	return moveOf(10, node, at)
}

// drawnTake is mostly new; sometimes it comes twice, or has an Id that another one has.
func drawnTake(state *uint64, h impl.House) impl.Change {
	s := h.Servers[drawn(state, len(h.Servers))]
	if len(s.All) > 0 && drawn(state, 5) == 0 {
		return s.All[drawn(state, len(s.All))]
	}
	u := changeOf(1+drawn(state, 99), "n"+impl.Decimal(10+drawn(state, 12)), "v"+impl.Decimal(drawn(state, 9)))
	if drawn(state, 5) == 0 {
		u.Value = ""
	}
	return u
}

func (l *houseLife) move(t *testing.T, m impl.Move, counts *houseCounts) {
	t.Helper()
	was := l.h
	l.h = steps(t, "in a drawn life", was, m)
	code := l.h.Codes[len(l.h.Codes)-1]
	counts.codes[m.Kind][code]++
	if shard := impl.ShardOf(m.Change.Name, was.Coord.K); m.Kind == 1 && code == 0 && !slices.Contains(l.taken[shard], m.Change) {
		l.taken[shard] = append(l.taken[shard], m.Change)
	}
	l.isWhole(t, l.h, counts)
}

// isWhole wants each shard to have just what it took in, and each epoch wholly or not at all; what it has not yet, it is ready for.
func (l *houseLife) isWhole(t *testing.T, h impl.House, counts *houseCounts) {
	t.Helper()
	epochs := len(h.Coord.Seals)
	parts := make([][]string, epochs)
	for shard, s := range h.Servers {
		if !slices.Equal(s.All, l.taken[shard]) || len(s.Views) != s.Epoch+1 || s.Epoch > epochs || s.Epoch < epochs-1 {
			t.Fatalf("of %d epochs, and of %v taken in, there is %s", epochs, l.taken[shard], shown(s))
		}
		if !s.Up {
			counts.fallen++
		}
		for epoch := range epochs {
			view := impl.ReadyLeaves(s)
			if epoch+1 <= s.Epoch {
				view = s.Views[epoch+1]
				sameLeaves(t, "a view", view, true, applyAllByWords(nil, l.taken[shard][:s.Taken[epoch+1]]), true)
			} else if counts.behind++; s.Ready.Epoch != epochs || s.Ready.Try != h.Coord.Tries[epochs-1] {
				t.Fatalf("the epoch %d is closed, and the shard %d has neither it nor is it ready for it: %s", epochs, shard, shown(s))
			}
			parts[epoch] = append(parts[epoch], impl.ShardRoot(view, s.K, shard, 16))
		}
	}
	for epoch, roots := range parts {
		if root, ok := impl.CombineRoots(roots, 16); !ok || root != h.Coord.Seals[epoch].Root {
			t.Fatalf("the epoch %d has another root than what the shards have of it", epoch+1)
		}
	}
}

// calmsDown wants all that was taken in to be closed with all shards, where there are epochs left.
func (l *houseLife) calmsDown(t *testing.T, counts *houseCounts) {
	t.Helper()
	calm := calms(t, "a drawn life", l.h, 4)
	l.isWhole(t, calm, counts)
	epochs := len(calm.Coord.Seals)
	if len(calm.Net) != 0 || slices.Contains(upsOf(calm), false) || slices.Contains(calm.Coord.Dones, false) && epochs > 0 || calm.Coord.Asking {
		t.Fatalf("calm, there is %q on the net, and %v are up: %s", calm.Net, upsOf(calm), shownCoord(calm.Coord))
	}
	if more := calms(t, "a drawn life", l.h, 20); !sameHouse(more, calm) {
		t.Fatal("more rounds make another house")
	}
	for _, s := range calm.Servers {
		if s.Epoch != epochs {
			t.Fatalf("calm, of %d epochs there is %s", epochs, shown(s))
		}
	}
	for epoch := -1; epoch <= epochs+1; epoch++ {
		view, ok := looksAt(t, "a drawn life", calm, epoch)
		if root := impl.RootOf(view, 16); epoch > 0 && epoch <= epochs && (!ok || root != calm.Coord.Seals[epoch-1].Root) {
			t.Fatalf("the epoch %d is sealed with another root than its view's", epoch)
		}
	}
	if len(l.h.Coord.Seals) == 4 {
		return
	}
	counts.calmed++
	var all []impl.Leaf
	for shard, s := range calm.Servers {
		if len(impl.WaitsOf(s)) != 0 {
			t.Fatalf("calm, the shard %d has what waits: %s", shard, shown(s))
		}
		all = append(all, applyAllByWords(nil, l.taken[shard])...)
	}
	view, ok := impl.ViewAt(calm, len(l.h.Coord.Seals)+1)
	sameLeaves(t, "all that was taken in", view, ok, sortedByName(all), true)
}

// A shard that voted and falls ahead of the commit is still ready when it rises, whatever is left, and commits what it voted for.
func TestShardsThatFallBetweenVoteAndCommit(t *testing.T) {
	for _, p := range shardPlaces() {
		voted := housesOf(t, 0, p.k)["voted"]
		leaves := impl.ReadyLeaves(voted.Servers[p.at])
		for _, left := range []int{0, 1, 5, 20, 100, math.MaxInt} {
			h := plays(t, "a fall", voted, 0, moveOf(9, p.at+1, left))
			h = plays(t, "more that is taken in", plays(t, "a rise", h, 0, moveOf(10, p.at+1, left)), 0, taking(changeOf(77, p.names(20)[19], "late")))
			h = carriedAll(t, "votes and commits", h)
			s := h.Servers[p.at]
			if len(h.Coord.Seals) != 1 || s.Epoch != 1 || len(impl.WaitsOf(s)) != 1 {
				t.Fatalf("with %d left there is %s", left, shown(s))
			}
			sameLeaves(t, "what it voted for", s.Views[1], true, leaves, true)
			if view, ok := looksAt(t, "what is closed", h, 1); !ok || impl.RootOf(view, 16) != h.Coord.Seals[0].Root {
				t.Errorf("with %d left %v is closed", left, view)
			}
		}
	}
}

// A shard that is not up when the commit comes sleeps through the epoch; a tick tells it.
func TestShardsThatSleepThroughAnEpoch(t *testing.T) {
	for _, p := range shardPlaces() {
		parts := partsByWords(p.k)
		h := plays(t, "a fall", housesOf(t, 2, p.k)["closed"], 0, moveOf(9, p.at+1, 3))
		for shard := range parts {
			code := 0
			if shard == p.at {
				code = 1
			}
			h = plays(t, "commits", h, code, carry)
		}
		h = carriedAll(t, "dones", h)
		if len(h.Coord.Seals) != 1 || slices.Index(h.Coord.Dones, false) != p.at {
			t.Fatalf("there is %s", shownCoord(h.Coord))
		}
		asleep := carriedSome(t, plays(t, "the next one", h, 0, tick), 1)
		if asleep.Servers[p.at].Epoch != 0 {
			t.Fatal("a shard that is not up commits")
		}
		h = plays(t, "a rise", h, 0, moveOf(10, p.at+1, 0))
		if s := h.Servers[p.at]; s.Epoch != 0 || s.Ready.Epoch != 1 {
			t.Fatalf("it rises as %s", shown(s))
		}
		if _, ok := looksAt(t, "asleep", h, 1); ok {
			t.Fatal("an epoch is seen that a shard has not")
		}
		// It does not vote for the next one ahead of it, so that can't be closed.
		begun := carriedAll(t, "the next one", plays(t, "the next one", h, 0, begin))
		if len(begun.Coord.Seals) != 1 || begun.Servers[p.at].Epoch != 0 {
			t.Fatalf("the next one is closed: %s", shownCoord(begun.Coord))
		}
		told := carriedAll(t, "told", plays(t, "told", h, 0, tick))
		if told.Servers[p.at].Epoch != 1 || slices.Contains(told.Coord.Dones, false) {
			t.Fatalf("told, it is %s", shown(told.Servers[p.at]))
		}
		twice := carriedAll(t, "told twice", plays(t, "told twice", carriedAll(t, "told", plays(t, "told", begun, 0, tick)), 0, tick))
		if len(twice.Coord.Seals) != 2 || twice.Servers[p.at].Epoch < 1 {
			t.Fatalf("the next one is not closed: %s", shownCoord(twice.Coord))
		}
	}
}

// carriedSome carries the first of so many; nobody hears them.
func carriedSome(t *testing.T, h impl.House, count int) impl.House {
	t.Helper()
	return plays(t, "not heard", h, 1, repeated(count, carry)...)
}

// A coordinator that falls ahead of the last vote has asked for nothing when it rises: that vote comes too late, and the next try counts.
func TestCoordinatorsThatFallAheadOfTheLastVote(t *testing.T) {
	for _, k := range rightSplits() {
		parts := partsByWords(k)
		houses := housesOf(t, 1, k)
		for _, left := range []int{0, 1, 100, math.MaxInt} {
			h := plays(t, "a fall", houses["all but one vote"], 0, moveOf(9, 0, left))
			carriedSome(t, h, 1)
			h = carriedAll(t, "too late", plays(t, "a rise", h, 0, moveOf(10, 0, left)))
			if c := h.Coord; len(c.Seals) != 0 || c.Asking || c.Try != 1 || strings.Join(c.Votes, "") != "" {
				t.Fatalf("a vote that is too late makes %s", shownCoord(c))
			}
			for _, s := range h.Servers {
				if s.Ready.Try != 1 {
					t.Fatalf("a shard has forgotten its vote: %s", shown(s))
				}
			}
			changesCodeOnly(t, "nothing is asked", h, give)
			h = plays(t, "votes once more", plays(t, "the next try", h, 0, begin), 0, repeated(parts, carry)...)
			for _, s := range h.Servers {
				if s.Ready.Try != 2 {
					t.Fatalf("a shard votes for another try: %s", shown(s))
				}
			}
			if h = carriedAll(t, "all of it", h); len(h.Coord.Seals) != 1 || h.Coord.Tries[0] != 2 {
				t.Fatalf("the next try makes %s", shownCoord(h.Coord))
			}
		}
	}
}

// What was closed stays so when the coordinator falls just behind it, also when its commits are lost: a tick tells them once more.
func TestCoordinatorsThatFallBehindTheLastVote(t *testing.T) {
	for _, k := range rightSplits() {
		parts := partsByWords(k)
		closed := housesOf(t, 1, k)["closed"]
		for _, left := range []int{0, 1, 100, math.MaxInt} {
			for lost := range parts + 1 {
				h := plays(t, "a fall", closed, 0, moveOf(9, 0, left))
				h = plays(t, "lost", h, 0, repeated(lost, moveOf(6, 0, 0))...)
				h = plays(t, "commits", h, 0, repeated(parts-lost, carry)...)
				h = carriedSome(t, h, parts-lost)
				h = plays(t, "a rise", h, 0, moveOf(10, 0, left))
				if c := h.Coord; len(c.Seals) != 1 || slices.Contains(c.Dones, true) || len(h.Net) != 0 {
					t.Fatalf("with %d left it rises as %s", left, shownCoord(c))
				}
				h = carriedAll(t, "told once more", plays(t, "told once more", h, 0, tick))
				for _, s := range h.Servers {
					if s.Epoch != 1 {
						t.Fatalf("with %d lost there is %s", lost, shown(s))
					}
				}
				if slices.Contains(h.Coord.Dones, false) {
					t.Fatalf("not all are done: %s", shownCoord(h.Coord))
				}
			}
		}
	}
}

// Both at once: all fall between the votes and the commits, and nothing is lost that was closed.
func TestAllThatFallBetweenVoteAndCommit(t *testing.T) {
	for _, k := range rightSplits() {
		parts := partsByWords(k)
		houses := housesOf(t, 1, k)
		for what, seals := range map[string]int{"voted": 0, "all but one vote": 0, "closed": 1, "committed": 1} {
			for _, left := range []int{0, 10, math.MaxInt} {
				h := houses[what]
				for node := range parts + 1 {
					h = plays(t, what, h, 0, moveOf(9, node, left))
				}
				h = carriedSome(t, h, len(h.Net))
				for node := range parts + 1 {
					h = plays(t, what, h, 0, moveOf(10, parts-node, left))
				}
				if len(h.Coord.Seals) != seals {
					t.Fatalf("%s: behind a fall there is %s", what, shownCoord(h.Coord))
				}
				if calm := calms(t, what, h, 3); len(calm.Coord.Seals) != seals+1 || calm.Servers[parts-1].Epoch != seals+1 {
					t.Errorf("%s: calm, there is %s", what, shownCoord(calm.Coord))
				}
			}
		}
	}
}

// A letter that comes twice, or late, closes nothing twice.
func TestLettersThatComeTwice(t *testing.T) {
	for _, k := range rightSplits() {
		h := housesOf(t, 0, k)["with changes"]
		h = plays(t, "begun", h, 0, begin)
		for range 3 {
			for at := range len(h.Net) {
				h = plays(t, "twice", h, 0, moveOf(7, 0, at))
			}
			h = plays(t, "carried", h, 0, repeated(len(h.Net), carry)...)
		}
		h = carriedAll(t, "all there is", h)
		if len(h.Coord.Seals) != 1 || slices.Contains(h.Coord.Dones, false) || h.Servers[0].Epoch != 1 {
			t.Errorf("K %d: there is %s", k, shownCoord(h.Coord))
		}
	}
}

func TestRunHouse(t *testing.T) {
	moves := []impl.Move{taking(changeOf(1, "ann", "k1")), begin, carry, moveOf(7, 0, 1), moveOf(8, 3, 5), carry, carry, give, tick, moveOf(9, 4, 3), moveOf(6, 0, 9), moveOf(10, 4, 0), begin, tick, carry}
	for _, no := range rightHouses() {
		for _, k := range rightSplits() {
			h := houseOf(t, no, k)
			for count := range len(moves) + 1 {
				run, ok := impl.RunHouse(no, k, moves[:count])
				isHouse(t, "so many moves", run, h)
				if !ok || len(run.Codes) != count {
					t.Errorf("%d moves: %v, %v", count, run.Codes, ok)
				}
				if count < len(moves) {
					h = steps(t, "a move", h, moves[count])
				}
			}
		}
	}
}

func TestRunHouseOfManyMoves(t *testing.T) {
	for _, m := range []impl.Move{tick, begin, moveOf(9, 4, 9), taking(changeOf(1, "ann", ""))} {
		for _, count := range []int{0, 1, 89, 90, 91, 92, 200} {
			h, ok := impl.RunHouse(1, 1, repeated(count, m))
			if ok != (count <= 90) || ok && len(h.Codes) != count || !ok && !sameHouse(h, impl.House{}) {
				t.Errorf("%d moves: %v, %v", count, h.Codes, ok)
			}
		}
	}
}

func TestRunHouseOfWrongMoves(t *testing.T) {
	for _, m := range wrongMoves() {
		for _, at := range []int{0, 1, 44, 89} {
			moves := repeated(90, tick)
			moves[at] = m
			if h, ok := impl.RunHouse(1, 1, moves); ok || !sameHouse(h, impl.House{}) {
				t.Errorf("with %s at %d: %v, %v", shown(m), at, h.Codes, ok)
			}
			if h, ok := impl.RunHouse(1, 1, moves[:at]); !ok || len(h.Codes) != at {
				t.Errorf("ahead of %s at %d: %v, %v", shown(m), at, h.Codes, ok)
			}
		}
	}
}

func TestCalmHouse(t *testing.T) {
	for _, k := range rightSplits() {
		for what, h := range housesOf(t, k, k) {
			none := calms(t, what, h, 0)
			if slices.Contains(upsOf(none), false) || none.Coord.Asking != (len(h.Coord.Seals) < 4) || !slices.Equal(none.Codes, h.Codes) {
				t.Errorf("%s, with no rounds: %s", what, shownCoord(none.Coord))
			}
			for _, rounds := range []int{-1, -20, -1 << 32, math.MinInt} {
				isHouse(t, what, calms(t, what, h, rounds), none)
			}
			calms(t, what, h, 1)
			calms(t, what, h, 2)
			most := calms(t, what, h, 20)
			for _, rounds := range []int{19, 21, 1 << 32, math.MaxInt} {
				isHouse(t, what, impl.CalmHouse(h, rounds), most)
			}
			// Where letters came from somebody else, shards may have voted for tries that there are not yet.
			if strings.HasPrefix(what, "with a") && strings.HasSuffix(what, "full net") {
				continue
			}
			if len(most.Net) != 0 || !slices.Equal(most.Codes, h.Codes) || slices.Contains(most.Coord.Dones, false) {
				t.Errorf("%s, calm: %q, %s", what, most.Net, shownCoord(most.Coord))
			}
			if want := min(4, len(none.Coord.Seals)+1); len(most.Coord.Seals) != want {
				t.Errorf("%s, calm: %d seals; want %d", what, len(most.Coord.Seals), want)
			}
		}
	}
}

// With no rounds what is told by giving up and beginning stands on the net, behind all.
func TestCalmHouseTells(t *testing.T) {
	h := housesOf(t, 1, 1)["all but one vote"]
	calm := calms(t, "no rounds", h, 0)
	want := slices.Clone(h.Net)
	for _, x := range []impl.Letter{{Kind: 3, To: 1, Epoch: 1, Try: 1}, {Kind: 3, To: 2, Epoch: 1, Try: 1}, {Kind: 1, To: 1, Epoch: 1, Try: 2}, {Kind: 1, To: 2, Epoch: 1, Try: 2}} {
		want = append(want, letterTextByWords(x))
	}
	if !slices.Equal(calm.Net, want) {
		t.Errorf("on the net there is %q; want %q", calm.Net, want)
	}
	full := calms(t, "no rounds, no room", withNet(h, manyTexts(119)...), 0)
	if len(full.Net) != 120 || full.Net[119] != want[1] || !full.Coord.Asking {
		t.Errorf("without room there are %d texts", len(full.Net))
	}
}

// With a net full of its own letters nothing that is told finds room at first; a few rounds close the epoch all the same.
func TestCalmHouseWithAFullNet(t *testing.T) {
	for _, k := range rightSplits() {
		for _, what := range []string{"begun", "all but one vote", "closed", "two begun", "one fallen, voted"} {
			h := housesOf(t, 0, k)[what]
			full := plays(t, what, h, 0, repeated(120-len(h.Net), moveOf(7, 0, 1))...)
			changesCodeOnly(t, what, full, moveOf(7, 0, 1))
			calm := calms(t, what, full, 4)
			if len(calm.Coord.Seals) != len(h.Coord.Seals)+1 || len(calm.Net) != 0 || slices.Contains(calm.Coord.Dones, false) {
				t.Errorf("K %d, %s: calm, there is %s", k, what, shownCoord(calm.Coord))
			}
		}
	}
}

// Where there are no more epochs or tries, nothing more is closed, but what was closed is told.
func TestCalmHouseWithoutEpochsOrTries(t *testing.T) {
	for _, k := range rightSplits() {
		houses := housesOf(t, 0, k)
		four := calms(t, "four epochs", houses["four epochs, with a change"], 20)
		if len(four.Coord.Seals) != 4 || four.Coord.Asking || len(impl.WaitsOf(four.Servers[0])) != 1 {
			t.Errorf("K %d: calm, four epochs are %s", k, shownCoord(four.Coord))
		}
		three := calms(t, "three epochs", plays(t, "a change", shutHouse(t, "three", houses["two epochs"]), 0, taking(changesIn(k, 6)[5])), 20)
		if len(three.Coord.Seals) != 4 || len(impl.WaitsOf(three.Servers[0])) != 0 {
			t.Errorf("K %d: calm, three epochs are %s", k, shownCoord(three.Coord))
		}
		for _, what := range []string{"closed", "begun", "one epoch, more changes"} {
			last := houseCopy(houses[what])
			last.Coord.Disk = coordDisk(append(coordLog(last), begunRecord(1000))...)
			last.Coord.Try = 1000
			calm := calms(t, what+", the last try", last, 20)
			if len(calm.Coord.Seals) != len(last.Coord.Seals) || calm.Coord.Asking || len(calm.Net) != 0 || slices.Contains(calm.Coord.Dones, false) && len(calm.Coord.Seals) > 0 {
				t.Errorf("%s, at the last try: %s", what, shownCoord(calm.Coord))
			}
			last.Coord.Disk = coordDisk(append(coordLog(houses[what]), begunRecord(999))...)
			last.Coord.Try = 999
			if calm = calms(t, what+", the last try but one", last, 20); len(calm.Coord.Seals) != len(last.Coord.Seals)+1 || calm.Coord.Try != 1000 {
				t.Errorf("%s, at the last try but one: %s", what, shownCoord(calm.Coord))
			}
		}
	}
}

func coordLog(h impl.House) []string {
	records, _ := unframeByWords(h.Coord.Disk.Files[0].Text)
	return records
}

// However much is on the net, it comes to an end, and so do votes that no seal comes of.
func TestCalmHouseComesToAnEnd(t *testing.T) {
	for _, k := range rightSplits() {
		for what, h := range housesOf(t, 1, k) {
			calm := calms(t, what+", a long net", withNet(h, append(slices.Clone(h.Net), manyTexts(300)...)...), 3)
			if len(calm.Net) != 0 {
				t.Errorf("%s: %d texts are left", what, len(calm.Net))
			}
		}
		other := houseCopy(housesOf(t, 1, k)["begun"])
		other.Coord.Pool = poolByWords(2)
		calm := calms(t, "another house's Pool", other, 20)
		if len(calm.Net) != 0 || len(calm.Coord.Seals) != 0 || !calm.Coord.Asking || calm.Coord.Votes[0] == "" {
			t.Errorf("of another house's Pool there is %s", shownCoord(calm.Coord))
		}
	}
}

func TestViewAt(t *testing.T) {
	for _, k := range rightSplits() {
		for what, h := range housesOf(t, 2, k) {
			for epoch := -2; epoch <= 6; epoch++ {
				view, ok := looksAt(t, what, h, epoch)
				least := 4
				for _, s := range h.Servers {
					least = min(least, s.Epoch)
				}
				if ok != (epoch >= 0 && epoch <= least) || epoch == 0 && len(view) != 0 {
					t.Errorf("K %d, %s: the view of %d is %v, %v", k, what, epoch, view, ok)
				}
			}
			for _, epoch := range []int{255, 256, 257, 1<<32 + 1, -1<<32 + 1, math.MaxInt, math.MinInt} {
				if view, ok := looksAt(t, what, h, epoch); ok || len(view) != 0 {
					t.Errorf("%s: the view of %d is %v, %v", what, epoch, view, ok)
				}
			}
		}
	}
	h := carriedAll(t, "an epoch", plays(t, "known", houseOf(t, 0, 2), 0, taking(changeOf(1, "bob", "k2")), taking(changeOf(1, "ann", "k1")), taking(changeOf(3, "cat", "k3")), taking(changeOf(9, "dan", "k4")), begin))
	view, ok := looksAt(t, "known", h, 1)
	sameLeaves(t, "known", view, ok, leavesOf("ann", "k1", "bob", "k2", "cat", "k3", "dan", "k4"), true)
}

// Only the views of the servers are looked at: neither K, nor who is up, nor any number of epochs.
func TestViewAtOfAnyHouse(t *testing.T) {
	view := func(list ...[]impl.Leaf) impl.Server { return impl.Server{Views: list} }
	a, b := leavesOf("ann", "k1"), leavesOf("bob", "k2", "cat", "k3")
	is := func(what string, h impl.House, epoch int, want []impl.Leaf, right bool) {
		t.Helper()
		got, ok := looksAt(t, what, h, epoch)
		sameLeaves(t, what, got, ok, want, right)
	}
	for _, k := range append(wrongSplits(), rightSplits()...) {
		h := impl.House{Coord: impl.Coord{K: k, House: k}, Servers: []impl.Server{view(nil, a), view(nil, b, a), view(b, nil)}}
		is("three servers", h, 0, b, true)
		is("three servers", h, 1, append(slices.Clone(a), b...), true)
		is("a view that one has alone", h, 2, nil, false)
		is("no view", h, 3, nil, false)
	}
	is("no servers", impl.House{}, 0, nil, true)
	is("a server without views", impl.House{Servers: []impl.Server{{Epoch: 4}}}, 0, nil, false)
	is("a server with less views", impl.House{Servers: []impl.Server{view(a, a), view(nil)}}, 1, nil, false)
	is("one name in two shards", impl.House{Servers: []impl.Server{view(a), view(a)}}, 0, nil, false)
	is("one name in two shards", impl.House{Servers: []impl.Server{view(b), view(leavesOf("cat", "k9"))}}, 0, nil, false)
	is("out of order", impl.House{Servers: []impl.Server{view(b), view(a)}}, 0, append(slices.Clone(a), b...), true)
	is("a view that is not right", impl.House{Servers: []impl.Server{view(leavesOf("Ann ", "k"))}}, 0, nil, false)
	is("as many as there may be", impl.House{Servers: []impl.Server{view(leavesFrom(impl.MaxLeaves)[:9]), view(leavesFrom(impl.MaxLeaves)[9:])}}, 0, leavesFrom(impl.MaxLeaves), true)
	is("one more", impl.House{Servers: []impl.Server{view(leavesFrom(impl.MaxLeaves + 1)[:9]), view(leavesFrom(impl.MaxLeaves + 1)[9:])}}, 0, nil, false)
}

// Houses that none of these functions made: every function answers, and none panics.
func TestHousesOfAnyKindAreAnswered(t *testing.T) {
	var list []impl.House
	base := housesOf(t, 1, 1)["two begun"]
	for _, c := range otherCoords(base.Coord) {
		h := houseCopy(base)
		h.Coord = c
		list = append(list, h)
	}
	for _, s := range otherServers(base.Servers[1]) {
		h := houseCopy(base)
		h.Servers[1] = s
		list = append(list, h)
	}
	for _, n := range []int{-1, 0, 1, 2, 3, 64, math.MaxInt, math.MinInt} {
		h := impl.House{Coord: impl.Coord{House: n, K: n, Up: true, Try: n, Asking: true, Tries: []int{n}, Seals: make([]impl.Seal, 5)}, Net: []string{"", turning(50)}, Codes: []int{n}}
		for range 4 {
			h.Servers = append(h.Servers, impl.Server{At: n, K: n, Up: true, Epoch: n, Ready: impl.Ready{Epoch: n, Try: n, Take: n}})
			list = append(list, houseCopy(h))
		}
	}
	for _, h := range list {
		was := houseCopy(h)
		for _, m := range append(movesFor(base)[:70], taking(changeOf(5, "ann", "k")), taking(changeOf(5, "bob", "k"))) {
			next := impl.StepHouse(h, m)
			if len(next.Codes) != len(h.Codes) && len(next.Codes) != len(h.Codes)+1 || len(next.Servers) != len(h.Servers) {
				t.Fatalf("%v makes %v of %v", m, next, h)
			}
		}
		for _, x := range aLetterEach() {
			impl.StepHouse(withNet(h, letterTextByWords(x)), carry)
		}
		if calm := impl.CalmHouse(h, 3); standsByWords(h) && len(calm.Net) != 0 || !slices.Equal(calm.Codes, h.Codes) {
			t.Errorf("calm, there is %q", calm.Net)
		}
		looksAt(t, "any house", h, 1)
		isHouse(t, "any house behind all that", h, was)
	}
}

// What has no text can't be put on the net: it is told, and lost.
func TestLettersWithoutATextAreNotSent(t *testing.T) {
	h := houseCopy(housesOf(t, 1, 1)["closed"])
	h.Coord.Tries, h.Net = nil, nil
	for _, m := range []impl.Move{tick} {
		next := impl.StepHouse(h, m)
		if len(next.Net) != 0 || next.Codes[len(next.Codes)-1] != 0 {
			t.Errorf("of the try 0 %q is told, and the code is %d", next.Net, next.Codes[len(next.Codes)-1])
		}
	}
	h.Coord.Tries, h.Coord.Asking = []int{1000}, true
	h.Coord.Try = 1001
	next := impl.StepHouse(h, tick)
	want := []string{letterTextByWords(letterOf(4, 1, 1, 1000)), letterTextByWords(letterOf(4, 2, 1, 1000))}
	if !slices.Equal(next.Net, want) {
		t.Errorf("of the tries 1001 and 1000 %q is told; want %q", next.Net, want)
	}
}

// ownHouse has all its texts in memory of its own.
func ownHouse(h impl.House) impl.House {
	h = houseCopy(h)
	h.Coord = ownCoord(h.Coord)
	for i, s := range h.Servers {
		h.Servers[i] = ownServer(s)
	}
	for i, text := range h.Net {
		h.Net[i] = strings.Clone(text)
	}
	return h
}

// textListsOfHouse are told list by list, as none of them may share with another.
func textListsOfHouse(h impl.House) [][]string {
	lists := append(textListsOfCoord(h.Coord), h.Net)
	for _, s := range h.Servers {
		lists = append(lists, textsOfDisk(s.Disk), textsOfChanges(s.All...))
		for _, view := range s.Views {
			lists = append(lists, textsOfLeaves(view))
		}
	}
	return lists
}

// wipeHouse writes into every list of a house, and the spare room behind it.
func wipeHouse(h impl.House) {
	wipeCoord(h.Coord)
	for _, s := range h.Servers[:cap(h.Servers)] {
		wipe(s)
	}
	clear(h.Servers[:cap(h.Servers)])
	clear(h.Net[:cap(h.Net)])
	clear(h.Codes[:cap(h.Codes)])
}

// houseAnswers are houses that every function makes of this one; all of them are new.
func houseAnswers(h impl.House, u impl.Change) []impl.House {
	list := []impl.House{impl.CalmHouse(h, 0), impl.CalmHouse(h, 3), impl.StepHouse(h, impl.Move{}), impl.StepHouse(h, taking(u))}
	fewer := h
	fewer.Servers = h.Servers[:1]
	list = append(list, impl.StepHouse(fewer, tick), impl.CalmHouse(fewer, 3))
	for kind := 2; kind <= 10; kind++ {
		for node := range 3 {
			list = append(list, impl.StepHouse(h, moveOf(kind, node, node)))
		}
	}
	run, _ := impl.RunHouse(h.Coord.House, h.Coord.K, []impl.Move{taking(u), begin, carry, carry, carry, carry, carry, tick})
	made, _ := impl.HouseNew(h.Coord.House, h.Coord.K)
	return append(list, run, made)
}

// lifeToShare is a house where something of everything is.
func lifeToShare(t *testing.T) (impl.House, impl.Change) {
	t.Helper()
	h := housesOf(t, 1, 1)["two begun"]
	h = plays(t, "one carried, one fallen", h, 0, carry, carry, moveOf(9, 2, 0))
	return h, changeOf(88, shardPlace{1, 0}.names(20)[19], "value")
}

func TestHousesAnswerNewMemory(t *testing.T) {
	h, u := lifeToShare(t)
	h, u = ownHouse(h), ownChange(u)
	was := ownHouse(h)
	given := append(slices.Concat(textListsOfHouse(h)...), textsOfChanges(u)...)
	answers, again := houseAnswers(h, u), houseAnswers(h, u)
	for i, answer := range answers {
		isHouse(t, "again", again[i], answer)
		lists := textListsOfHouse(answer)
		for at, list := range lists {
			noneShares(t, "an answer and what was handed in", list, given)
			noneShares(t, "two lists of an answer", list, slices.Concat(lists[:at]...))
		}
	}
	for i, answer := range answers {
		keep := houseCopy(again[i])
		wipeHouse(answer)
		isHouse(t, "an answer, when another one is written into", again[i], keep)
	}
	view, _ := impl.ViewAt(h, 1)
	noneShares(t, "a view and its house", textsOfLeaves(view), given)
	clear(view[:cap(view)])
	isHouse(t, "what was handed in, when the answers are written into", h, was)
}

// Lists that are handed in may be pieces of longer ones, whose spare room is somebody else's.
func TestHousesWriteIntoNoSpareRoom(t *testing.T) {
	h, u := lifeToShare(t)
	room := houseCopy(h)
	servers, texts, codes := len(h.Servers), len(h.Net), len(h.Codes)
	room.Servers = append(room.Servers, housesOf(t, 1, 1)["fresh"].Servers...)
	room.Net = append(room.Net, "a", "b", "c", "d", "e")
	room.Codes = append(room.Codes, 7, 8, 9)
	for i, s := range room.Servers {
		room.Servers[i].All = append(slices.Clone(s.All), u, u, u)
		room.Servers[i].Views = append(slices.Clone(s.Views), leavesFrom(3))
		room.Servers[i].Taken = append(slices.Clone(s.Taken), 70, 71)
	}
	given := houseCopy(h)
	given.Servers, given.Net, given.Codes = room.Servers[:servers], room.Net[:texts], room.Codes[:codes]
	for i, s := range h.Servers {
		own := &given.Servers[i]
		own.All, own.Views, own.Taken = own.All[:len(s.All)], own.Views[:len(s.Views)], own.Taken[:len(s.Taken)]
	}
	was := houseCopy(room)
	moves := repeated(95, begin)
	for i, answer := range houseAnswers(given, u) {
		wipeHouse(answer)
		if !sameHouse(room, was) {
			t.Fatalf("the answer %d writes into the room behind a house", i)
		}
	}
	view, _ := impl.ViewAt(given, 1)
	clear(append(view, leavesFrom(4)...))
	impl.RunHouse(1, 1, moves[:80])
	isHouse(t, "the room behind a house", room, was)
	if !slices.Equal(moves, repeated(95, begin)) {
		t.Error("RunHouse writes into its moves")
	}
}

// Every call answers from what it is given alone: again the same, whatever was closed or lost between, and however many ask at once.
func TestHousesKeepNothing(t *testing.T) {
	houses := housesOf(t, 0, 1)
	for what, h := range houses {
		for _, other := range houses {
			impl.CalmHouse(other, 2)
			impl.StepHouse(other, moveOf(9, 0, 5))
			steps(t, what, h, carry)
			steps(t, what, h, begin)
		}
	}
	var all sync.WaitGroup
	for _, h := range houses {
		for range 3 {
			all.Go(func() {
				one, two := impl.CalmHouse(h, 3), impl.CalmHouse(h, 3)
				if !sameHouse(one, two) {
					t.Error("two calm houses of one are unlike")
				}
			})
		}
	}
	all.Wait()
}

// Whoever sends is gone when the call answers.
func TestHousesLeaveNobodyBehind(t *testing.T) {
	houses := housesOf(t, 0, 2)
	was := runtime.NumGoroutine()
	for _, h := range houses {
		for _, m := range []impl.Move{begin, give, tick, carry, moveOf(9, 0, 0)} {
			impl.StepHouse(h, m)
		}
		impl.CalmHouse(h, 20)
	}
	for range 100000 {
		if runtime.NumGoroutine() <= was {
			return
		}
		runtime.Gosched()
	}
	t.Errorf("there were %d who run, and now there are %d", was, runtime.NumGoroutine())
}
