package tests

import (
	"math"
	"slices"
	"strings"
	"sync"
	"testing"

	"loop.example/g00284/impl"
)

// seedsByWords has nothing of a house that is none.
func seedsByWords() map[int]string {
	return map[int]string{0: "house0", 1: "house1", 2: "house2"}
}

// poolsByWords are by seed; nobody writes into them.
var poolsByWords = sync.OnceValue(func() map[string][]string {
	pools := map[string][]string{}
	for _, seed := range []string{"", "house0", "house1", "house2"} {
		for at := range 16 {
			pools[seed] = append(pools[seed], publicByWords(seed, at))
		}
	}
	return pools
})

func poolByWords(house int) []string {
	return slices.Clone(poolsByWords()[seedsByWords()[house]])
}

// partsByWords is 0 of a K that is none.
func partsByWords(k int) int {
	return map[int]int{0: 1, 1: 2, 2: 4}[k]
}

func begunRecord(try int) string {
	return "\x01" + lengthByWords(try)
}

func closedRecord(try int, s impl.Seal) string {
	return "\x02" + lengthByWords(try) + sealTextByWords(s)
}

func coordDisk(records ...string) impl.Disk {
	return diskOf(keptLog("coord", records...))
}

func headsOf(seals []impl.Seal) []impl.Head {
	var list []impl.Head
	for _, s := range seals {
		list = append(list, s.Head)
	}
	return list
}

// restingByWords asks nothing, and nobody is done.
func restingByWords(c impl.Coord) impl.Coord {
	c.Asking, c.Votes, c.Dones = false, make([]string, partsByWords(c.K)), make([]bool, partsByWords(c.K))
	return c
}

func redoneCoordByWords(c impl.Coord, record string) impl.Coord {
	try, wide := tryByWords(record[1:])
	body := record[1+wide:]
	switch {
	case wide == 0:
	case record[0] == 1:
		if body == "" && try > c.Try && try <= 1000 {
			c.Try = try
		}
	case record[0] == 2:
		s, right := readSealByWords(body)
		if right && try == c.Try && chainOkByWords(append(headsOf(c.Seals), s.Head), c.House) {
			c.Seals, c.Tries = append(slices.Clone(c.Seals), s), append(slices.Clone(c.Tries), try)
		}
	}
	return c
}

func coordByWords(house, k int, d impl.Disk) impl.Coord {
	c := restingByWords(impl.Coord{House: house, K: k, Up: true, Disk: d, Pool: poolByWords(house)})
	file := placeOf(d, "coord")
	if file < 0 || !diskOkByWords(d) {
		return c
	}
	records, _ := unframeByWords(d.Files[file].Text)
	for _, record := range records {
		c = redoneCoordByWords(c, record)
	}
	return c
}

// coordWritten is false, and the coordinator as it was, when the record has no room.
func coordWritten(c impl.Coord, record string) (impl.Coord, bool) {
	d, done := actsByWords(c.Disk, []impl.Act{addAct("coord", frameByWords(record)), keepAct("coord")})
	if done != 2 {
		return c, false
	}
	c.Disk = d
	return c, true
}

// toEachByWords is told to every shard but those that are passed over.
func toEachByWords(c impl.Coord, kind, epoch, try int, passed func(shard int) bool) []impl.Letter {
	var told []impl.Letter
	for shard := range partsByWords(c.K) {
		if !passed(shard) {
			told = append(told, impl.Letter{Kind: kind, From: 0, To: 1 + shard, Epoch: epoch, Try: try})
		}
	}
	return told
}

func nobody(int) bool {
	return false
}

func beginByWords(c impl.Coord) (impl.Coord, []impl.Letter) {
	if !c.Up || c.Asking || len(c.Seals) >= 4 || c.Try < 0 || c.Try > 999 {
		return c, nil
	}
	next, ok := coordWritten(c, begunRecord(c.Try+1))
	if !ok {
		return c, nil
	}
	next.Try, next.Asking, next.Votes = c.Try+1, true, make([]string, partsByWords(c.K))
	return next, toEachByWords(c, 1, len(c.Seals)+1, c.Try+1, nobody)
}

func giveUpByWords(c impl.Coord) (impl.Coord, []impl.Letter) {
	if !c.Up || !c.Asking {
		return c, nil
	}
	c.Asking, c.Votes = false, make([]string, partsByWords(c.K))
	return c, toEachByWords(c, 3, len(c.Seals)+1, c.Try, nobody)
}

// tickByWords wants as many Votes and Dones as shards.
func tickByWords(c impl.Coord) []impl.Letter {
	var told []impl.Letter
	if c.Up && c.Asking {
		told = toEachByWords(c, 1, len(c.Seals)+1, c.Try, func(shard int) bool { return c.Votes[shard] != "" })
	}
	if last := len(c.Seals); c.Up && last > 0 {
		told = append(told, toEachByWords(c, 4, last, c.Tries[last-1], func(shard int) bool { return c.Dones[shard] })...)
	}
	return told
}

// hearCoordByWords wants as many Votes and Dones as shards.
func hearCoordByWords(c impl.Coord, x impl.Letter) (impl.Coord, []impl.Letter) {
	if !c.Up || !letterOkByWords(x) || x.To != 0 || x.From > partsByWords(c.K) {
		return c, nil
	}
	next := coordCopy(c)
	if x.Kind == 5 && x.Epoch == len(c.Seals) {
		next.Dones[x.From-1] = true
	}
	if x.Kind != 2 || !c.Asking || x.Epoch != len(c.Seals)+1 || x.Try != c.Try {
		return next, nil
	}
	if c.Votes[x.From-1] == "" {
		next.Votes[x.From-1] = x.Root
	}
	if slices.Contains(next.Votes, "") {
		return next, nil
	}
	seal, ok := sealOfVotes(next)
	if !ok {
		return next, nil
	}
	next, ok = coordWritten(next, closedRecord(c.Try, seal))
	if !ok {
		return c, nil
	}
	next = restingByWords(next)
	next.Seals, next.Tries = append(next.Seals, seal), append(next.Tries, c.Try)
	return next, toEachByWords(c, 4, x.Epoch, c.Try, nobody)
}

// sealOfVotes is false when there is no such root or head, or its place in the Pool is not the house's own.
func sealOfVotes(c impl.Coord) (impl.Seal, bool) {
	root, whole := combineByWords(c.Votes, 16)
	head, right := nextByWords(headsOf(c.Seals), c.House, root)
	if !whole || !right || len(c.Pool) != 16 || c.Pool[head.Epoch-1] != poolByWords(c.House)[head.Epoch-1] {
		return impl.Seal{}, false
	}
	return sealByWords(seedsByWords()[c.House], c.Pool, head), true
}

func fallCoordByWords(c impl.Coord, left []int) impl.Coord {
	d, ok := loseByWords(c.Disk, left)
	if !ok {
		d = c.Disk
	}
	c = coordByWords(c.House, c.K, d)
	c.Up = false
	return c
}

// sameKept is of what comes up again: the Pool and what was closed and begun.
func sameKept(a, b impl.Coord) bool {
	return slices.Equal(a.Pool, b.Pool) && slices.EqualFunc(a.Seals, b.Seals, sameSeal) && slices.Equal(a.Tries, b.Tries) && a.Try == b.Try
}

func sameCoord(a, b impl.Coord) bool {
	asked := a.Asking == b.Asking && slices.Equal(a.Votes, b.Votes) && slices.Equal(a.Dones, b.Dones)
	return asked && sameKept(a, b) && sameDisk(a.Disk, b.Disk) && a.House == b.House && a.K == b.K && a.Up == b.Up
}

// coordCopy shares no list with the coordinator.
func coordCopy(c impl.Coord) impl.Coord {
	c.Disk, c.Pool, c.Seals = copyOf(c.Disk), slices.Clone(c.Pool), slices.Clone(c.Seals)
	c.Tries, c.Votes, c.Dones = slices.Clone(c.Tries), slices.Clone(c.Votes), slices.Clone(c.Dones)
	for i, s := range c.Seals {
		c.Seals[i].Sig = sigCopy(s.Sig)
	}
	return c
}

// shownCoord is a beginning of what there is, without what is long.
func shownCoord(c impl.Coord) string {
	c.Disk, c.Pool, c.Seals = impl.Disk{}, nil, slices.Clone(c.Seals)
	for i := range c.Seals {
		c.Seals[i].Sig = impl.Sig{At: c.Seals[i].Sig.At}
	}
	return shown(c)
}

func isCoord(t *testing.T, what string, got, want impl.Coord) {
	t.Helper()
	if !sameCoord(got, want) {
		t.Fatalf("%s: %s; want %s (or their disks, pools or signatures are unlike)", what, shownCoord(got), shownCoord(want))
	}
}

func areTold(t *testing.T, what string, got, want []impl.Letter) {
	t.Helper()
	if !slices.Equal(got, want) {
		t.Fatalf("%s: told is %v; want %v", what, got, want)
	}
}

func isCoordOk(t *testing.T, what string, c impl.Coord, want bool) {
	t.Helper()
	if got := impl.CoordOk(c); got != want {
		t.Errorf("%s: CoordOk of %s is %v", what, shownCoord(c), got)
	}
}

func makesCoord(t *testing.T, what string, house, k int, d impl.Disk) impl.Coord {
	t.Helper()
	was := copyOf(d)
	c := impl.CoordNew(house, k, d)
	isCoord(t, what, c, coordByWords(house, k, d))
	if !sameDisk(d, was) {
		t.Fatalf("%s: CoordNew writes into its disk", what)
	}
	return c
}

// does holds what comes of a coordinator against the chapter's words, and the coordinator against what it was.
func does(t *testing.T, what string, c impl.Coord, do, words func(impl.Coord) (impl.Coord, []impl.Letter)) (impl.Coord, []impl.Letter) {
	t.Helper()
	was := coordCopy(c)
	want, wantTold := words(coordCopy(c))
	next, told := do(c)
	areTold(t, what, told, wantTold)
	isCoord(t, what, next, want)
	isCoord(t, what+": what was handed in, behind it", c, was)
	return next, told
}

func begins(t *testing.T, what string, c impl.Coord) (impl.Coord, []impl.Letter) {
	t.Helper()
	return does(t, what+", begun", c, impl.BeginEpoch, beginByWords)
}

func givesUp(t *testing.T, what string, c impl.Coord) (impl.Coord, []impl.Letter) {
	t.Helper()
	return does(t, what+", given up", c, impl.GiveUp, giveUpByWords)
}

func ticks(t *testing.T, what string, c impl.Coord) []impl.Letter {
	t.Helper()
	tick := func(c impl.Coord) (impl.Coord, []impl.Letter) { return c, impl.TickCoord(c) }
	_, told := does(t, what+", a tick", c, tick, func(c impl.Coord) (impl.Coord, []impl.Letter) { return c, tickByWords(c) })
	return told
}

func hearsCoord(t *testing.T, what string, c impl.Coord, x impl.Letter) (impl.Coord, []impl.Letter) {
	t.Helper()
	hear := func(c impl.Coord) (impl.Coord, []impl.Letter) { return impl.HearCoord(c, x) }
	return does(t, what+", "+shown(x)+" heard", c, hear, func(c impl.Coord) (impl.Coord, []impl.Letter) { return hearCoordByWords(c, x) })
}

func fallsCoord(t *testing.T, what string, c impl.Coord, left []int) impl.Coord {
	t.Helper()
	wasLeft := slices.Clone(left)
	fall := func(c impl.Coord) (impl.Coord, []impl.Letter) { return impl.FallCoord(c, left), nil }
	next, _ := does(t, what+", fallen", c, fall, func(c impl.Coord) (impl.Coord, []impl.Letter) { return fallCoordByWords(c, left), nil })
	if !slices.Equal(left, wasLeft) {
		t.Fatalf("%s: FallCoord writes into what is left", what)
	}
	return next
}

func risesCoord(t *testing.T, what string, c impl.Coord) impl.Coord {
	t.Helper()
	rise := func(c impl.Coord) (impl.Coord, []impl.Letter) { return impl.RiseCoord(c), nil }
	next, _ := does(t, what+", risen", c, rise, func(c impl.Coord) (impl.Coord, []impl.Letter) {
		if c.Up {
			return c, nil
		}
		return coordByWords(c.House, c.K, c.Disk), nil
	})
	return next
}

// changesNothing wants a letter to be as if it had never come.
func changesNothing(t *testing.T, what string, c impl.Coord, x impl.Letter) {
	t.Helper()
	next, told := impl.HearCoord(c, x)
	if len(told) != 0 || !sameCoord(next, c) {
		t.Errorf("%s: %s is answered by %v, and makes %s of %s", what, shown(x), told, shownCoord(next), shownCoord(c))
	}
}

// voteFor is a vote of the shard for what is asked just now.
func voteFor(c impl.Coord, shard int, root string) impl.Letter {
	return impl.Letter{Kind: 2, From: shard + 1, Epoch: len(c.Seals) + 1, Try: c.Try, Root: root}
}

// doneWith is of the epoch that was closed last.
func doneWith(c impl.Coord, shard int) impl.Letter {
	return impl.Letter{Kind: 5, From: shard + 1, Epoch: len(c.Seals), Try: c.Tries[len(c.Seals)-1]}
}

// asks wants a coordinator that begins, and tells every shard.
func asks(t *testing.T, c impl.Coord) impl.Coord {
	t.Helper()
	next, told := begins(t, "a coordinator", c)
	if !next.Asking || len(told) != partsByWords(c.K) {
		t.Fatalf("%s does not begin", shownCoord(c))
	}
	return next
}

// votedBy is what the votes of these shards make, with roots from this one on; none of them is the last one.
func votedBy(t *testing.T, c impl.Coord, root int, shards ...int) impl.Coord {
	t.Helper()
	for i, shard := range shards {
		var told []impl.Letter
		if c, told = hearsCoord(t, "a vote", c, voteFor(c, shard, rootAt(root+i))); len(told) != 0 || !c.Asking {
			t.Fatalf("closed ahead of the last vote: %s", shownCoord(c))
		}
	}
	return c
}

// shutBy begins an epoch and closes it with the votes of all shards, the last one of them first.
func shutBy(t *testing.T, c impl.Coord, root int) impl.Coord {
	t.Helper()
	count := partsByWords(c.K)
	c = asks(t, c)
	for shard := count - 1; shard > 0; shard-- {
		c = votedBy(t, c, root+shard, shard)
	}
	next, told := hearsCoord(t, "the last vote", c, voteFor(c, 0, rootAt(root)))
	if len(told) != count || next.Asking || len(next.Seals) != len(c.Seals)+1 {
		t.Fatalf("the last vote makes %s, and tells %v", shownCoord(next), told)
	}
	return next
}

// doneBy is what these shards make that are done.
func doneBy(t *testing.T, c impl.Coord, shards ...int) impl.Coord {
	t.Helper()
	for _, shard := range shards {
		c, _ = hearsCoord(t, "a done", c, doneWith(c, shard))
	}
	return c
}

func gaveUp(t *testing.T, c impl.Coord) impl.Coord {
	t.Helper()
	next, told := givesUp(t, "a coordinator", c)
	if next.Asking || len(told) != partsByWords(c.K) {
		t.Fatalf("%s does not give up", shownCoord(c))
	}
	return next
}

// shardsUpTo are all of them but the last so many.
func shardsUpTo(k, but int) []int {
	var list []int
	for shard := range partsByWords(k) - but {
		list = append(list, shard)
	}
	return list
}

// coordsOf are all of one house, at every point of its life, by what they are.
func coordsOf(t *testing.T, house, k int) map[string]impl.Coord {
	t.Helper()
	list := map[string]impl.Coord{"fresh": impl.CoordNew(house, k, impl.Disk{})}
	list["asking"] = asks(t, list["fresh"])
	list["some votes"] = votedBy(t, list["asking"], 0, shardsUpTo(k, 1)...)
	list["given up"] = gaveUp(t, list["some votes"])
	list["asking again"] = votedBy(t, asks(t, gaveUp(t, asks(t, list["given up"]))), 5, shardsUpTo(k, 1)...)
	one := shutBy(t, list["given up"], 9)
	list["one epoch"] = one
	list["one epoch, some done"] = doneBy(t, one, shardsUpTo(k, 1)...)
	list["one epoch, all done"] = doneBy(t, one, shardsUpTo(k, 0)...)
	list["one epoch, asking, some done"] = asks(t, list["one epoch, some done"])
	list["one epoch, some votes, some done"] = votedBy(t, list["one epoch, asking, some done"], 3, shardsUpTo(k, 1)...)
	list["one epoch, given up"] = gaveUp(t, list["one epoch, some votes, some done"])
	three := shutBy(t, shutBy(t, list["one epoch, given up"], 1), 14)
	list["three epochs"] = three
	list["three epochs, asking"] = votedBy(t, asks(t, gaveUp(t, asks(t, three))), 2, shardsUpTo(k, 1)...)
	list["four epochs"] = shutBy(t, three, 6)
	list["four epochs, all done"] = doneBy(t, list["four epochs"], shardsUpTo(k, 0)...)
	for _, what := range []string{"fresh", "some votes", "one epoch, some votes, some done", "one epoch, all done", "four epochs"} {
		list[what+", fallen"] = fallsCoord(t, "a fall", list[what], nil)
	}
	return list
}

func TestCoordConstants(t *testing.T) {
	if impl.NameCoord != "coord" {
		t.Error("the constant of chapter 19 is another one")
	}
}

func TestSeedOf(t *testing.T) {
	for house, seed := range seedsByWords() {
		if got := impl.SeedOf(house); got != seed || len(seed) != 6 {
			t.Errorf("SeedOf of %d is %q", house, got)
		}
	}
	for _, house := range wrongHouses() {
		if got := impl.SeedOf(house); got != "" {
			t.Errorf("SeedOf of %d, which is none, is %q", house, got)
		}
	}
}

func TestCoordNewOfNothing(t *testing.T) {
	for _, house := range rightHouses() {
		for _, k := range rightSplits() {
			c := makesCoord(t, "no file", house, k, impl.Disk{})
			zero := impl.Coord{House: house, K: k, Up: true, Pool: impl.PoolOf("house" + impl.Decimal(house))}
			zero.Votes, zero.Dones = make([]string, 1<<k), make([]bool, 1<<k)
			isCoord(t, "no file", c, zero)
			isCoordOk(t, "no file", c, true)
		}
	}
}

// A house or a K that is none: its Pool is that of no seed, and there is no shard to be asked.
func TestCoordNewOfHousesAndSplitsThatAreNone(t *testing.T) {
	chain := chainFrom(1, 2, 0)
	d := coordDisk(begunRecord(1), closedRecord(1, sealOf(t, 1, chain[0])), begunRecord(5))
	for _, house := range append(wrongHouses(), 0, 1) {
		for _, k := range append(wrongSplits(), 1) {
			for _, disk := range []impl.Disk{{}, d} {
				c := makesCoord(t, "none", house, k, disk)
				isCoordOk(t, "none", c, houseIsRight(house) && k == 1)
				c, told := begins(t, "none", c)
				if !c.Asking || len(told) != partsByWords(k) {
					t.Errorf("house %d, K %d: %v is told", house, k, told)
				}
				ticks(t, "none", c)
				for node := 1; node <= 4; node++ {
					hearsCoord(t, "none", c, voteFor(c, node-1, rootAt(node)))
					hearsCoord(t, "none", c, letterOf(5, node, 1, 1))
				}
				givesUp(t, "none", c)
				risesCoord(t, "none", fallsCoord(t, "none", c, []int{3}))
			}
		}
	}
}

func houseIsRight(house int) bool {
	return slices.Contains(rightHouses(), house)
}

// A house that is none closes no epoch: there is no head of it.
func TestCoordsOfNoHouseCloseNothing(t *testing.T) {
	for _, house := range wrongHouses() {
		c, _ := impl.BeginEpoch(impl.CoordNew(house, 0, impl.Disk{}))
		next, told := impl.HearCoord(c, voteFor(c, 0, rootAt(1)))
		if len(told) != 0 || len(next.Seals) != 0 || !next.Asking || next.Votes[0] != rootAt(1) || !sameDisk(next.Disk, c.Disk) {
			t.Errorf("the house %d closes %s", house, shownCoord(next))
		}
	}
}

func TestCoordFileBytes(t *testing.T) {
	c := impl.CoordNew(1, 1, coordDisk("\x01\xc7\x01"))
	c, _ = impl.BeginEpoch(c)
	c, _ = impl.GiveUp(c)
	c, _ = impl.BeginEpoch(c)
	c, _ = impl.HearCoord(c, voteFor(c, 1, "fedcba9876543210"))
	c, _ = impl.HearCoord(c, voteFor(c, 0, "0123456789abcdef"))
	root := hashByWords(16, 3, "0123456789abcdef", "fedcba9876543210")
	sig := signByWords("house1", poolByWords(1), 0, headHashByWords(impl.Head{House: 1, Epoch: 1, Root: root}))
	want := []string{"\x01\xc7\x01", "\x01\xc8\x01", "\x01\xc9\x01", "\x02\xc9\x01\x12\x01\x01" + root + sigTextOf(sig)}
	hasTexts(t, "a coordinator's file", c.Disk, "coord", want)
	if !sameDisk(c.Disk, coordDisk(want...)) {
		t.Errorf("a coordinator's disk is %s", shown(c.Disk))
	}
}

// coordLife is a coordinator, with the first vote of each shard for what it asks just now, as whoever stands beside it has heard them.
type coordLife struct {
	c     impl.Coord
	votes map[int]string
}

// lifeCounts are what drawn lives came to, so that it is seen that they came to something.
type lifeCounts struct {
	closed, late, fallen, done int
}

// P19: a coordinator closes an epoch when all have voted, once, and comes up again as it was, in drawn lives.
func TestCoordsInDrawnLives(t *testing.T) {
	state, counts := uint64(19), lifeCounts{}
	for _, k := range rightSplits() {
		for _, house := range rightHouses() {
			for range 12 {
				life := coordLife{impl.CoordNew(house, k, impl.Disk{}), nil}
				for range 90 {
					life.move(t, &state, &counts)
				}
				isCoordOk(t, "in a drawn life", life.c, true)
				counts.closed += len(life.c.Seals)
			}
		}
	}
	if counts.closed < 200 || counts.late < 1000 || counts.fallen < 500 || counts.done < 300 {
		t.Errorf("drawn lives came to no more than %+v", counts)
	}
}

// move is one of all that can happen to a coordinator, mostly of what fits just now.
func (l *coordLife) move(t *testing.T, state *uint64, counts *lifeCounts) {
	t.Helper()
	if !l.c.Up && drawn(state, 2) == 0 {
		l.c = comesUpAgain(t, l.c)
		return
	}
	ticks(t, "in a drawn life", l.c)
	switch move := drawn(state, 16); {
	case move < 3:
		was := l.c
		if l.c, _ = begins(t, "in a drawn life", was); l.c.Asking && !was.Asking {
			l.votes = map[int]string{}
		}
	case move == 3:
		l.c, _ = givesUp(t, "in a drawn life", l.c)
	case move < 12:
		l.hearVote(t, drawnVote(state, l.c), counts)
	case move < 15 && len(l.c.Seals) > 0:
		x := doneWith(l.c, drawn(state, partsByWords(l.c.K)))
		if drawn(state, 4) == 0 {
			x.Epoch, x.Try = 1+drawn(state, 4), 1+drawn(state, 9)
		}
		l.c, _ = hearsCoord(t, "in a drawn life", l.c, x)
		counts.done++
	default:
		isCoordOk(t, "in a drawn life", l.c, true)
		l.c = fallsAndKeeps(t, l.c, drawnLeft(state))
		counts.fallen++
	}
}

// drawnVote is of what is asked just now, in three of four.
func drawnVote(state *uint64, c impl.Coord) impl.Letter {
	x := voteFor(c, drawn(state, partsByWords(c.K)), rootAt(drawn(state, 20)))
	switch drawn(state, 16) {
	case 0:
		x.Try -= 1 + drawn(state, 3)
	case 1:
		x.Epoch = drawn(state, 6)
	case 2:
		x.From = drawn(state, 6)
	case 3:
		x.Try++
	}
	return x
}

// hearVote holds what comes of a vote against the votes alone that were heard, and a closed epoch against what others may ask of it.
func (l *coordLife) hearVote(t *testing.T, x impl.Letter, counts *lifeCounts) {
	t.Helper()
	was, parts := l.c, partsByWords(l.c.K)
	wanted := was.Up && was.Asking && x.Epoch == len(was.Seals)+1 && x.Try == was.Try && x.From >= 1 && x.From <= parts
	next, told := hearsCoord(t, "in a drawn life", was, x)
	l.c = next
	if !wanted {
		counts.late++
		if len(told) != 0 || !sameCoord(next, was) {
			t.Fatalf("%v, which nobody wants, makes %s of %s", x, shownCoord(next), shownCoord(was))
		}
		return
	}
	if _, there := l.votes[x.From-1]; !there {
		l.votes[x.From-1] = x.Root
	}
	if len(l.votes) == parts {
		isShutBy(t, was, next, told, l.votes)
		return
	}
	if len(told) != 0 || len(next.Seals) != len(was.Seals) || !next.Asking {
		t.Fatalf("with %d of %d votes %s is closed", len(l.votes), parts, shownCoord(next))
	}
}

// isShutBy wants one epoch more, of just these votes, chained and sealed, and LtCommit to every shard.
func isShutBy(t *testing.T, was, next impl.Coord, told []impl.Letter, votes map[int]string) {
	t.Helper()
	epoch := len(was.Seals) + 1
	if len(next.Seals) != epoch || !slices.EqualFunc(next.Seals[:epoch-1], was.Seals, sameSeal) || next.Asking {
		t.Fatalf("all have voted, and %s comes of %s", shownCoord(next), shownCoord(was))
	}
	var roots []string
	for shard := range len(votes) {
		roots = append(roots, votes[shard])
		if told[shard] != (impl.Letter{Kind: impl.LtCommit, To: shard + 1, Epoch: epoch, Try: was.Try}) {
			t.Fatalf("the shard %d is told %v", shard, told[shard])
		}
	}
	seal := next.Seals[epoch-1]
	root, _ := impl.CombineRoots(roots, impl.HashWide)
	if len(told) != len(votes) || seal.Root != root || seal.House != was.House || seal.Epoch != epoch || next.Tries[epoch-1] != was.Try {
		t.Fatalf("of the votes %x %v is sealed, and %v told", roots, seal.Head, told)
	}
	if !impl.ChainOk(headsOf(next.Seals), was.House) || !impl.SealOk(impl.PoolRoot(next.Pool), seal) {
		t.Fatalf("%v is not chained, or not sealed", seal.Head)
	}
	if slices.Contains(next.Dones, true) || strings.Join(next.Votes, "") != "" {
		t.Fatalf("closed just now, there is %s", shownCoord(next))
	}
}

// fallsAndKeeps wants a coordinator to lose nothing but what it asked.
func fallsAndKeeps(t *testing.T, c impl.Coord, left []int) impl.Coord {
	t.Helper()
	fallen := fallsCoord(t, "a fall", c, left)
	want := restingByWords(c)
	want.Up = false
	isCoord(t, "what falls", fallen, want)
	return fallen
}

func comesUpAgain(t *testing.T, fallen impl.Coord) impl.Coord {
	t.Helper()
	c := risesCoord(t, "a rise", fallen)
	want := restingByWords(fallen)
	want.Up = true
	isCoord(t, "what rises", c, want)
	return c
}

// P19, at every point of a coordinator's life and with every loss.
func TestCoordsComeUpAsTheyWere(t *testing.T) {
	for _, k := range rightSplits() {
		for what, c := range coordsOf(t, k, k) {
			lefts := append(someLefts(), powerLefts(1, 0, len(c.Disk.Files))...)
			for _, left := range lefts {
				fallsAndKeeps(t, c, left)
			}
			fallen := fallsAndKeeps(t, c, lefts[3])
			isCoordOk(t, what, fallen, true)
			isCoordOk(t, what, comesUpAgain(t, fallen), true)
			isCoordOk(t, what, c, true)
			fallsAndKeeps(t, fallen, nil)
		}
	}
}

// Behind a rise it begins a try of its own, and closes the epoch with votes for that alone.
func TestCoordsGoOnBehindAFall(t *testing.T) {
	for _, k := range rightSplits() {
		for what, c := range coordsOf(t, 2-k, k) {
			if len(c.Seals) == 4 {
				continue
			}
			risen := comesUpAgain(t, fallsAndKeeps(t, c, []int{5}))
			if next := shutBy(t, risen, 4); next.Try != c.Try+1 || len(next.Seals) != len(c.Seals)+1 {
				t.Errorf("%s: behind a rise %s comes of %s", what, shownCoord(next), shownCoord(c))
			}
		}
	}
}

// In whatever order they come, the last vote closes, and none ahead of it.
func TestLastVoteCloses(t *testing.T) {
	for _, order := range [][]int{{0}, {0, 1}, {1, 0}, {0, 1, 2, 3}, {3, 2, 1, 0}, {2, 0, 3, 1}, {1, 3, 0, 2}} {
		k := map[int]int{1: 0, 2: 1, 4: 2}[len(order)]
		c := asks(t, shutBy(t, impl.CoordNew(2, k, impl.Disk{}), 7))
		votes := map[int]string{}
		for i, shard := range order {
			votes[shard] = rootAt(11 + i)
			was := c
			var told []impl.Letter
			c, told = hearsCoord(t, "in some order", was, voteFor(was, shard, votes[shard]))
			if i < len(order)-1 {
				if len(told) != 0 || len(c.Seals) != 1 || !c.Asking || c.Votes[shard] != votes[shard] {
					t.Errorf("with the vote %d of %v there is %s, and %v is told", i, order, shownCoord(c), told)
				}
				continue
			}
			isShutBy(t, was, c, told, votes)
		}
		for _, shard := range order {
			changesNothing(t, "a vote behind the last one", c, impl.Letter{Kind: 2, From: shard + 1, Epoch: 2, Try: 2, Root: votes[shard]})
		}
	}
}

// Roots may be alike, or of any bytes.
func TestVotesOfAnyRoots(t *testing.T) {
	for _, k := range rightSplits() {
		c := impl.CoordNew(0, k, impl.Disk{})
		for i, root := range votedRoots()[:4] {
			c = asks(t, c)
			votes := map[int]string{}
			for shard := range 1 << k {
				votes[shard] = root
				if i%2 == 1 {
					votes[shard] = votedRoots()[4+(i+shard)%4]
				}
				was := c
				var told []impl.Letter
				c, told = hearsCoord(t, "any roots", c, voteFor(c, shard, votes[shard]))
				if shard == 1<<k-1 {
					isShutBy(t, was, c, told, votes)
				}
			}
		}
	}
}

// The first vote of a shard counts, however often another one comes.
func TestVotesThatComeTwice(t *testing.T) {
	for _, k := range []int{1, 2} {
		c := asks(t, impl.CoordNew(1, k, impl.Disk{}))
		votes := map[int]string{}
		for shard := range 1 << k {
			votes[shard] = rootAt(shard)
			was := c
			var told []impl.Letter
			c, told = hearsCoord(t, "a first vote", c, voteFor(c, shard, rootAt(shard)))
			if shard == 1<<k-1 {
				isShutBy(t, was, c, told, votes)
				break
			}
			for _, root := range []string{rootAt(shard), rootAt(9), strings.Repeat("\x00", 16)} {
				for again := range shard + 1 {
					changesNothing(t, "a vote that comes twice", c, voteFor(c, again, root))
				}
			}
		}
	}
}

// lateVotes are for an epoch that is closed, an older try, or an epoch to come.
func lateVotes(c impl.Coord, shard int) []impl.Letter {
	var list []impl.Letter
	now := voteFor(c, shard, rootAt(1))
	for epoch := 1; epoch <= 4; epoch++ {
		for _, try := range []int{1, c.Try - 1, c.Try, c.Try + 1, 999, 1000} {
			if x := withTry(withEpoch(now, epoch), try); try >= 1 && x != now {
				list = append(list, x)
			}
		}
	}
	return list
}

func TestVotesThatComeLate(t *testing.T) {
	for _, k := range rightSplits() {
		for what, c := range coordsOf(t, k, k) {
			for shard := range 1 << k {
				for _, x := range lateVotes(c, shard) {
					changesNothing(t, what+", a late vote", c, x)
				}
				if !c.Asking {
					changesNothing(t, what+", a vote while it asks nothing", c, voteFor(c, shard, rootAt(3)))
				}
			}
			for shard := 1 << k; shard < 4; shard++ {
				changesNothing(t, what+", a vote of a shard that there isn't", c, voteFor(c, shard, rootAt(3)))
				changesNothing(t, what+", a done of a shard that there isn't", c, letterOf(5, shard+1, max(1, len(c.Seals)), max(1, c.Try)))
			}
		}
	}
}

// A vote that was on its way when its try was given up counts neither then nor for the next one.
func TestVotesForATryThatWasGivenUp(t *testing.T) {
	for _, k := range rightSplits() {
		c := votedBy(t, asks(t, shutBy(t, impl.CoordNew(0, k, impl.Disk{}), 2)), 5, shardsUpTo(k, 1)...)
		last := voteFor(c, 1<<k-1, rootAt(6))
		up := gaveUp(t, c)
		changesNothing(t, "given up", up, last)
		again := asks(t, up)
		changesNothing(t, "given up and begun again", again, last)
		if slices.ContainsFunc(again.Votes, func(vote string) bool { return vote != "" }) {
			t.Errorf("begun again there is %s", shownCoord(again))
		}
		risen := comesUpAgain(t, fallsAndKeeps(t, c, nil))
		changesNothing(t, "fallen and risen", risen, last)
		begun := asks(t, risen)
		changesNothing(t, "fallen, risen and begun again", begun, last)
		whole := votedBy(t, begun, 9, shardsUpTo(k, 1)...)
		changesNothing(t, "fallen, risen, begun again, and the last is lacking", whole, last)
		if _, told := hearsCoord(t, "its own vote", whole, withTry(last, whole.Try)); len(told) != 1<<k {
			t.Errorf("with a vote for its own try %v is told", told)
		}
	}
}

func TestHearCoordOfLettersThatAreNotRightOrNotToIt(t *testing.T) {
	coords := coordsOf(t, 1, 2)
	for _, what := range []string{"some votes", "one epoch", "one epoch, some votes, some done", "four epochs"} {
		c := coords[what]
		for _, x := range wrongLetters() {
			changesNothing(t, what+", a letter that is not right", c, x)
		}
		for _, kind := range []int{2, 5} {
			x := voteFor(c, 3, rootAt(1))
			if kind == 5 {
				x = letterOf(5, 4, max(1, len(c.Seals)), c.Try)
			}
			for _, other := range []impl.Letter{withEnds(x, 4, 1), withEnds(x, 4, 4), withEnds(x, 4, -1), withEnds(x, 0, 0), withEnds(x, 5, 0), withEnds(x, -3, 0), withEnds(x, math.MinInt, 0), withEnds(x, math.MaxInt, 0), withEnds(x, 0, 4), withRoot(x, rootAt(0)[1:]), withRoot(x, "r"), withTry(x, 1001), withTry(x, 0), withEpoch(x, 0), withEpoch(x, 5), withKind(x, 0), withKind(x, 6)} {
				changesNothing(t, what+", a letter that is not right", c, other)
			}
		}
		for _, kind := range []int{1, 3, 4} {
			for node := 1; node <= 4; node++ {
				changesNothing(t, what+", its own letter", c, letterOf(kind, node, len(c.Seals)+1, c.Try))
				changesNothing(t, what+", its own letter", c, letterOf(kind, node, max(1, len(c.Seals)), c.Try))
			}
		}
	}
}

// Each kind of letter, with every epoch, and tries below, at and above its own.
func TestHearCoordOfEveryLetter(t *testing.T) {
	for _, k := range rightSplits() {
		for what, c := range coordsOf(t, 0, k) {
			for kind := range 7 {
				for epoch := range 6 {
					for _, try := range []int{c.Try - 1, c.Try, c.Try + 1, 1001} {
						hearsCoord(t, what, c, withTry(letterOf(kind, 1+(kind+epoch)%4, epoch, 1), try))
						hearsCoord(t, what, c, withTry(letterOf(kind, 1<<k, epoch, 2), try))
					}
				}
			}
		}
	}
}

func TestHearCoordThatIsNotUp(t *testing.T) {
	for _, k := range rightSplits() {
		for what, c := range coordsOf(t, 1, k) {
			fallen := fallsCoord(t, "a fall", c, []int{7})
			asking := coordCopy(c)
			asking.Up, asking.Asking = false, true
			for _, down := range []impl.Coord{fallen, asking} {
				for shard := range 1 << k {
					changesNothing(t, what+", not up", down, voteFor(down, shard, rootAt(2)))
					changesNothing(t, what+", not up", down, letterOf(5, shard+1, max(1, len(c.Seals)), max(1, c.Try)))
				}
				if told := ticks(t, what+", not up", down); len(told) != 0 {
					t.Errorf("%s, not up, tells %v", what, told)
				}
				for _, do := range []func(impl.Coord) (impl.Coord, []impl.Letter){impl.BeginEpoch, impl.GiveUp} {
					if next, told := do(down); len(told) != 0 || !sameCoord(next, down) {
						t.Errorf("%s, not up, begins or gives up: %s", what, shownCoord(next))
					}
				}
			}
		}
	}
}

func TestDonesOfTheLastEpoch(t *testing.T) {
	for _, k := range rightSplits() {
		for what, c := range coordsOf(t, 2, k) {
			if !c.Up {
				continue
			}
			for shard := range 1 << k {
				for epoch := 1; epoch <= 4; epoch++ {
					x := letterOf(5, shard+1, epoch, max(1, c.Try))
					if epoch != len(c.Seals) {
						changesNothing(t, what+", a done of another epoch", c, x)
						continue
					}
					next, told := hearsCoord(t, what, c, x)
					want := coordCopy(c)
					want.Dones[shard] = true
					isCoord(t, what+", a done", next, want)
					areTold(t, what+", a done", told, nil)
					changesNothing(t, what+", a done that comes twice", next, x)
					// The chapter asks for no try of it.
					for _, try := range []int{1, 7, 1000} {
						other, _ := impl.HearCoord(c, withTry(x, try))
						isCoord(t, what+", a done with another try", other, want)
					}
				}
			}
		}
	}
}

// Who is done with an epoch is to be asked anew in the next one.
func TestDonesAreOfOneEpoch(t *testing.T) {
	c := shutBy(t, impl.CoordNew(0, 2, impl.Disk{}), 3)
	c = doneBy(t, c, 0, 1, 2, 3)
	asked := asks(t, c)
	if slices.Contains(asked.Dones, false) {
		t.Errorf("begun, there is %s", shownCoord(asked))
	}
	if up := gaveUp(t, asked); slices.Contains(up.Dones, false) {
		t.Errorf("given up, there is %s", shownCoord(up))
	}
	next := shutBy(t, c, 8)
	if slices.Contains(next.Dones, true) {
		t.Errorf("closed, there is %s", shownCoord(next))
	}
	changesNothing(t, "a done of the epoch ahead", next, letterOf(5, 2, 1, 1))
}

func TestTickCoord(t *testing.T) {
	letter := func(kind, to, epoch, try int) impl.Letter {
		return impl.Letter{Kind: kind, To: to, Epoch: epoch, Try: try}
	}
	c := impl.CoordNew(1, 2, impl.Disk{})
	areTold(t, "fresh", ticks(t, "fresh", c), nil)
	c = asks(t, c)
	areTold(t, "no votes", ticks(t, "no votes", c), []impl.Letter{letter(1, 1, 1, 1), letter(1, 2, 1, 1), letter(1, 3, 1, 1), letter(1, 4, 1, 1)})
	c = votedBy(t, c, 4, 2, 0)
	areTold(t, "two votes", ticks(t, "two votes", c), []impl.Letter{letter(1, 2, 1, 1), letter(1, 4, 1, 1)})
	c = gaveUp(t, c)
	areTold(t, "given up", ticks(t, "given up", c), nil)
	c = shutBy(t, c, 5)
	areTold(t, "closed", ticks(t, "closed", c), []impl.Letter{letter(4, 1, 1, 2), letter(4, 2, 1, 2), letter(4, 3, 1, 2), letter(4, 4, 1, 2)})
	c = doneBy(t, c, 3, 1)
	areTold(t, "two done", ticks(t, "two done", c), []impl.Letter{letter(4, 1, 1, 2), letter(4, 3, 1, 2)})
	both := votedBy(t, asks(t, c), 6, 1, 2)
	areTold(t, "both", ticks(t, "both", both), []impl.Letter{letter(1, 1, 2, 3), letter(1, 4, 2, 3), letter(4, 1, 1, 2), letter(4, 3, 1, 2)})
	c = doneBy(t, c, 0, 2)
	areTold(t, "all done", ticks(t, "all done", c), nil)
	c = shutBy(t, c, 7)
	areTold(t, "closed again", ticks(t, "closed again", c)[:1], []impl.Letter{letter(4, 1, 2, 3)})
	risen := comesUpAgain(t, fallsAndKeeps(t, doneBy(t, c, 0, 1, 2, 3), nil))
	areTold(t, "risen", ticks(t, "risen", risen), []impl.Letter{letter(4, 1, 2, 3), letter(4, 2, 2, 3), letter(4, 3, 2, 3), letter(4, 4, 2, 3)})
	for _, k := range rightSplits() {
		for what, c := range coordsOf(t, 1, k) {
			ticks(t, what, c)
		}
	}
}

func TestBeginEpoch(t *testing.T) {
	for _, k := range rightSplits() {
		for what, c := range coordsOf(t, 0, k) {
			next, told := begins(t, what, c)
			if !c.Up || c.Asking || len(c.Seals) == impl.MaxEpochs {
				if len(told) != 0 || !sameCoord(next, c) {
					t.Errorf("%s: %s begins", what, shownCoord(c))
				}
				continue
			}
			if next.Try != c.Try+1 || !next.Asking || !slices.Equal(next.Dones, c.Dones) || strings.Join(next.Votes, "") != "" {
				t.Errorf("%s: begun, there is %s", what, shownCoord(next))
			}
			for shard := range 1 << k {
				if told[shard] != (impl.Letter{Kind: impl.LtPrepare, To: shard + 1, Epoch: len(c.Seals) + 1, Try: c.Try + 1}) {
					t.Errorf("%s: begun, %v is told", what, told)
				}
			}
			again, told := begins(t, what+", asking already", next)
			if len(told) != 0 || !sameCoord(again, next) {
				t.Errorf("%s: begins twice", what)
			}
		}
	}
}

// Up to MaxTry there is one more, whether that is read of the disk or handed in.
func TestBeginEpochAtTries(t *testing.T) {
	for _, try := range []int{0, 1, 2, 126, 127, 128, 998, 999, 1000, 1001, 1002, -1, -2, 1 << 32, math.MaxInt, math.MinInt} {
		c := makesCoord(t, "a try", 1, 1, coordDisk(begunRecord(3)))
		c.Try = try
		next, told := begins(t, "a try", c)
		if right := try >= 0 && try < impl.MaxTry; right != (len(told) == 2) || !right && !sameCoord(next, c) {
			t.Errorf("at the try %d %v is told", try, told)
		}
		c.Asking = true
		givesUp(t, "a try", c)
	}
	c := makesCoord(t, "the last try", 1, 1, coordDisk(begunRecord(999)))
	c = gaveUp(t, asks(t, c))
	if c.Try != 1000 || len(ticks(t, "behind the last try", c)) != 0 {
		t.Errorf("the last try is %d", c.Try)
	}
	isCoordOk(t, "behind the last try", c, true)
	if next, told := begins(t, "behind the last try", c); len(told) != 0 || !sameCoord(next, c) {
		t.Errorf("behind the last try %v is told", told)
	}
	if risen := comesUpAgain(t, fallsAndKeeps(t, c, nil)); risen.Try != 1000 {
		t.Errorf("behind the last try it rises at %d", risen.Try)
	}
	last := shutBy(t, makesCoord(t, "the last try but one", 1, 1, coordDisk(begunRecord(999))), 3)
	if last.Tries[0] != 1000 {
		t.Errorf("closed with the last try there is %s", shownCoord(last))
	}
}

func TestGiveUp(t *testing.T) {
	for _, k := range rightSplits() {
		for what, c := range coordsOf(t, 1, k) {
			next, told := givesUp(t, what, c)
			if !c.Up || !c.Asking {
				if len(told) != 0 || !sameCoord(next, c) {
					t.Errorf("%s: %s gives up", what, shownCoord(c))
				}
				continue
			}
			want := coordCopy(c)
			want.Asking, want.Votes = false, make([]string, 1<<k)
			isCoord(t, what+", given up", next, want)
			for shard := range 1 << k {
				if told[shard] != (impl.Letter{Kind: impl.LtAbort, To: shard + 1, Epoch: len(c.Seals) + 1, Try: c.Try}) {
					t.Errorf("%s: given up, %v is told", what, told)
				}
			}
			isCoordOk(t, what+", given up", next, true)
			if again, told := givesUp(t, what+", given up already", next); len(told) != 0 || !sameCoord(again, next) {
				t.Errorf("%s: gives up twice", what)
			}
		}
	}
}

// fullCoordDisk has these records in the coordinator's file, and so much besides that this many bytes are left.
func fullCoordDisk(t *testing.T, room int, records ...string) impl.Disk {
	t.Helper()
	d := fullDisk(t, room, records...)
	d.Files[0].Name = "coord"
	return d
}

// What can't be written changes nothing; what has just the room it needs is done.
func TestCoordsWithoutRoomToBegin(t *testing.T) {
	chain := chainFrom(2, 2, 4)
	for _, try := range []int{0, 126, 127, 999} {
		base := []string{closedRecord(0, sealOf(t, 2, chain[0]))}
		if try > 0 {
			base = append(base, begunRecord(try))
		}
		need := len(frameByWords(begunRecord(try + 1)))
		for room := range need + 2 {
			c := makesCoord(t, "little room", 2, 1, fullCoordDisk(t, room, base...))
			next, told := begins(t, "little room", c)
			if done := len(told) == 2; done != (room >= need) || !done && !sameCoord(next, c) {
				t.Errorf("the try %d needs %d bytes; with room for %d %v is told", try+1, need, room, told)
			}
			if room == 0 {
				if given := ticks(t, "no room", c); len(given) != 2 || given[0].Kind != impl.LtCommit {
					t.Errorf("without room %v is told", given)
				}
			}
		}
	}
}

func TestCoordsWithoutRoomToClose(t *testing.T) {
	seal := sealOf(t, 2, chainFrom(2, 1, 4)[0])
	for k := range 3 {
		// A frame has two bytes for its length and four of check sum; a record a first byte, its try, a head behind its length, and a signature.
		for need, ahead := range map[int][]string{
			6 + 1 + 1 + 19 + 321: {begunRecord(3)},
			6 + 1 + 2 + 35 + 321: {begunRecord(3), closedRecord(3, seal), begunRecord(200)},
		} {
			begun := len(frameByWords(begunRecord(4)))
			if len(ahead) > 1 {
				begun = len(frameByWords(begunRecord(201)))
			}
			for _, room := range []int{0, 1, 100, need - 2, need - 1, need, need + 1, need + 60} {
				c := makesCoord(t, "little room", 2, k, fullCoordDisk(t, room+begun, ahead...))
				c = votedBy(t, asks(t, c), 2, shardsUpTo(k, 1)...)
				last := voteFor(c, 1<<k-1, rootAt(8))
				next, told := hearsCoord(t, "little room", c, last)
				if done := len(told) == 1<<k; done != (room >= need) || !done && (len(told) != 0 || !sameCoord(next, c)) {
					t.Errorf("closing needs %d bytes; with room for %d %v is told", need, room, told)
				}
				isCoordOk(t, "little room", next, true)
			}
		}
	}
}

// The vote that could not be written down isn't kept: it closes the epoch when it comes once more, as soon as there is room.
func TestCoordsCloseWhenThereIsRoom(t *testing.T) {
	c := votedBy(t, asks(t, makesCoord(t, "little room", 0, 1, fullCoordDisk(t, 20, begunRecord(3)))), 2, 0)
	last := voteFor(c, 1, rootAt(9))
	changesNothing(t, "no room", c, last)
	given, told := givesUp(t, "no room", c)
	if given.Asking || len(told) != 2 {
		t.Errorf("without room %v is told", told)
	}
	c.Disk = coordDisk(begunRecord(3), begunRecord(4))
	next, told := hearsCoord(t, "room", c, last)
	isShutBy(t, c, next, told, map[int]string{0: rootAt(2), 1: rootAt(9)})
}

func TestCoordsWithoutAPlaceForAFile(t *testing.T) {
	for i, d := range append(wrongDisks(), filesFrom(30)) {
		c := makesCoord(t, "no place for a file", 1, 0, d)
		if next, told := begins(t, "no place for a file", c); len(told) != 0 || !sameCoord(next, c) {
			t.Errorf("disk %d: %v is told", i, told)
		}
		c.Try, c.Asking = 1, true
		changesNothing(t, "no place for a file", c, voteFor(c, 0, rootAt(1)))
		if up, told := givesUp(t, "no place for a file", c); up.Asking || len(told) != 1 {
			t.Errorf("disk %d: %v is told", i, told)
		}
	}
	asks(t, makesCoord(t, "a place for a file", 1, 2, filesFrom(29)))
}

// coordRecords are of the house 1: an epoch closed with the second try, a try given up, another epoch closed, and one more try begun.
func coordRecords(t *testing.T) []string {
	t.Helper()
	chain := chainFrom(1, 2, 0)
	return []string{begunRecord(1), begunRecord(2), closedRecord(2, sealOf(t, 1, chain[0])), begunRecord(3), begunRecord(130), closedRecord(130, sealOf(t, 1, chain[1])), begunRecord(131)}
}

// passesOverOfCoord wants nothing to come of a record behind others, and what comes behind it to be done.
func passesOverOfCoord(t *testing.T, what string, ahead []string, record string) {
	t.Helper()
	without := makesCoord(t, what, 1, 1, coordDisk(ahead...))
	with := makesCoord(t, what, 1, 1, coordDisk(append(slices.Clone(ahead), record)...))
	if !sameKept(with, without) {
		t.Errorf("%s: a record %.40x makes %s; without it there is %s", what, record, shownCoord(with), shownCoord(without))
	}
	both := makesCoord(t, what, 1, 1, coordDisk(append(slices.Clone(ahead), record, begunRecord(777))...))
	if both.Try != 777 {
		t.Errorf("%s: what comes behind a record %.40x is not done", what, record)
	}
}

func TestCoordNewOfRecords(t *testing.T) {
	chain := chainFrom(1, 2, 0)
	seals := []impl.Seal{sealOf(t, 1, chain[0]), sealOf(t, 1, chain[1])}
	records := coordRecords(t)
	for i, want := range []impl.Coord{
		{Try: 1},
		{Try: 2},
		{Try: 2, Seals: seals[:1], Tries: []int{2}},
		{Try: 3, Seals: seals[:1], Tries: []int{2}},
		{Try: 130, Seals: seals[:1], Tries: []int{2}},
		{Try: 130, Seals: seals, Tries: []int{2, 130}},
		{Try: 131, Seals: seals, Tries: []int{2, 130}},
	} {
		want.House, want.K, want.Up, want.Pool, want.Disk = 1, 2, true, poolByWords(1), coordDisk(records[:i+1]...)
		c := makesCoord(t, "record by record", 1, 2, want.Disk)
		isCoord(t, "record by record", c, restingByWords(want))
		isCoordOk(t, "record by record", c, true)
	}
}

func TestCoordNewPassesOverTries(t *testing.T) {
	for _, try := range []int{0, 1, 2, 3, 127, 128, 129, 130, 131, 132, 999, 1000, 1001, 1002, 1024, 16383, 16384, 16384 + 200} {
		for count, last := range map[int]int{0: 0, 1: 1, 3: 2, 4: 3, 6: 130, 7: 131} {
			ahead := coordRecords(t)[:count]
			if try <= last || try > 1000 {
				passesOverOfCoord(t, "a try that does not fit", ahead, begunRecord(try))
			} else if c := makesCoord(t, "a try", 1, 1, coordDisk(append(slices.Clone(ahead), begunRecord(try))...)); c.Try != try {
				t.Errorf("behind the try %d the try %d makes %d", last, try, c.Try)
			}
		}
	}
}

func TestCoordNewPassesOverSeals(t *testing.T) {
	records := coordRecords(t)
	chains := [][]impl.Head{chainFrom(1, 4, 0), chainFrom(1, 4, 9), chainFrom(0, 4, 0), chainFrom(2, 4, 0)}
	fits := map[int]impl.Head{0: chains[0][0], 2: chains[0][0], 3: chains[0][1], 5: chains[0][1], 6: chains[0][2], 7: chains[0][2]}
	other := chains[0][0]
	other.Root = rootAt(17)
	for count, fit := range fits {
		try := makesCoord(t, "ahead", 1, 1, coordDisk(records[:count]...)).Try
		for at, chain := range chains {
			for _, h := range append(slices.Clone(chain), other) {
				record := closedRecord(try, sealOf(t, h.House, h))
				if h.House == fit.House && h.Epoch == fit.Epoch && h.Prev == fit.Prev {
					c := makesCoord(t, "a seal", 1, 1, coordDisk(append(slices.Clone(records[:count]), record)...))
					if len(c.Seals) != fit.Epoch || c.Seals[fit.Epoch-1].Head != h || c.Tries[fit.Epoch-1] != try {
						t.Errorf("behind %d records %v makes %s", count, h, shownCoord(c))
					}
					for _, wrong := range []int{try - 1, try + 1, 0, 1000, 1001} {
						if wrong != try && wrong >= 0 {
							passesOverOfCoord(t, "a seal of another try", records[:count], closedRecord(wrong, sealOf(t, 1, h)))
						}
					}
				} else {
					passesOverOfCoord(t, "a seal that does not fit, of the chain "+impl.Decimal(at), records[:count], record)
				}
			}
		}
	}
}

// A fifth epoch is none, and a head that is not right has no text.
func TestCoordNewPassesOverSealsThatAreNotRight(t *testing.T) {
	chain := chainFrom(1, 4, 0)
	records := []string{begunRecord(5)}
	for _, h := range chain {
		records = append(records, closedRecord(5, sealOf(t, 1, h)))
	}
	c := makesCoord(t, "four epochs of one try", 1, 2, coordDisk(records...))
	if len(c.Seals) != 4 || !slices.Equal(c.Tries, []int{5, 5, 5, 5}) {
		t.Errorf("of four epochs of one try there is %s", shownCoord(c))
	}
	fifth := impl.Seal{Head: impl.Head{House: 1, Epoch: 5, Root: rootAt(0), Prev: headHashByWords(chain[3])}, Sig: c.Seals[3].Sig}
	passesOverOfCoord(t, "a fifth epoch", records, closedRecord(5, fifth))
	first, second := sealOf(t, 1, chain[0]), sealOf(t, 1, chain[1])
	for what, change := range map[string]func(s *impl.Seal){
		"a Root that is too short": func(s *impl.Seal) { s.Root = s.Root[1:] },
		"a Root that is too long":  func(s *impl.Seal) { s.Root += "x" },
		"no Root":                  func(s *impl.Seal) { s.Root = "" },
		"a Prev that is too short": func(s *impl.Seal) { s.Prev = s.Prev[:15] },
		"no Prev":                  func(s *impl.Seal) { s.Prev = "" },
		"another Prev":             func(s *impl.Seal) { s.Prev = rootAt(5) },
		"epoch 0":                  func(s *impl.Seal) { s.Epoch = 0 },
		"epoch 1, with a Prev":     func(s *impl.Seal) { s.Epoch = 1 },
		"house 3":                  func(s *impl.Seal) { s.House = 3 },
		"house 255":                func(s *impl.Seal) { s.House = 255 },
		"house 257":                func(s *impl.Seal) { s.House = 257; s.Epoch = 0 },
		"no place of a Sig":        func(s *impl.Seal) { s.Sig.At = 16 },
		"a Sig less one text":      func(s *impl.Seal) { s.Sig.Sides = s.Sig.Sides[1:] },
		"a Sig less one byte":      func(s *impl.Seal) { s.Sig.Open[0] = s.Sig.Open[0][1:] },
		"a Sig and one byte":       func(s *impl.Seal) { s.Sig.Shut[7] += "x" },
		"no Sig":                   func(s *impl.Seal) { s.Sig = impl.Sig{} },
	} {
		other := impl.Seal{Head: second.Head, Sig: sigCopy(second.Sig)}
		change(&other)
		passesOverOfCoord(t, what, []string{begunRecord(2), closedRecord(2, first)}, closedRecord(2, other))
	}
}

// The chapter asks for a seal's head alone: by whose keys it is signed is looked at by others.
func TestCoordNewLooksAtNoSignature(t *testing.T) {
	chain := chainFrom(1, 2, 0)
	for _, s := range []impl.Seal{sealOf(t, 1, chain[0]), {Head: chain[0], Sig: sealOf(t, 2, chainFrom(2, 2, 3)[1]).Sig}} {
		s.Sig = sigCopy(s.Sig)
		s.Sig.Open[3] = turned(s.Sig.Open[3], 2, 1)
		c := makesCoord(t, "another signature", 1, 0, coordDisk(begunRecord(1), closedRecord(1, s)))
		if len(c.Seals) != 1 || !sameSeal(c.Seals[0], s) {
			t.Errorf("with another signature there is %s", shownCoord(c))
		}
	}
}

// Ahead of any try that was begun the try is 0, and a seal with that fits.
func TestCoordNewOfASealOfNoTry(t *testing.T) {
	c := makesCoord(t, "the try 0", 1, 1, coordDisk(closedRecord(0, sealOf(t, 1, chainFrom(1, 1, 0)[0]))))
	if len(c.Seals) != 1 || !slices.Equal(c.Tries, []int{0}) {
		t.Errorf("of a seal with the try 0 there is %s", shownCoord(c))
	}
	areTold(t, "the try 0", ticks(t, "the try 0", c), []impl.Letter{{Kind: 4, To: 1, Epoch: 1}, {Kind: 4, To: 2, Epoch: 1}})
	shutBy(t, c, 3)
}

func TestCoordNewPassesOverRecordsOfOtherForms(t *testing.T) {
	chain := chainFrom(1, 3, 0)
	closed := closedRecord(131, sealOf(t, 1, chain[2]))
	for b := range 256 {
		first := string([]byte{byte(b)})
		passesOverOfCoord(t, "a first byte alone", coordRecords(t), first)
		if b != 1 {
			passesOverOfCoord(t, "another first byte", coordRecords(t), first+begunRecord(500)[1:])
		}
		if b != 2 {
			passesOverOfCoord(t, "another first byte", coordRecords(t), first+closed[1:])
		}
	}
	for what, record := range map[string]string{"begun": begunRecord(500), "closed": closed} {
		for cut := 1; cut < len(record); cut++ {
			passesOverOfCoord(t, what+", cut", coordRecords(t), record[:cut])
		}
		for _, more := range []string{"\x00", "\x01", "\x80", "a", record} {
			passesOverOfCoord(t, what+" and more", coordRecords(t), record+more)
		}
		tail := record[3:]
		for _, longer := range append(longerForms(record[1:3]), "\x80\x94\xeb\xdc\x03", "\x81\x94\xeb\xdc\x03", "\xff\xff\xff\xff\xff\xff\xff\xff\xff\x01") {
			passesOverOfCoord(t, what+", a longer form of its try", coordRecords(t), record[:1]+longer+tail)
		}
	}
	for _, longer := range longerForms(closed[3:4]) {
		passesOverOfCoord(t, "a longer form of a head's length", coordRecords(t), closed[:3]+longer+closed[4:])
	}
	for at := range 26 {
		for _, by := range []byte{1, 2, 0x10, 0x80, 0xff} {
			makesCoord(t, "a byte turned", 1, 1, coordDisk(append(coordRecords(t), turned(closed, at, by))...))
		}
	}
}

// Drawn records, of which many do not fit: what is made of them is what is made of those that do.
func TestCoordNewOfDrawnRecords(t *testing.T) {
	state := uint64(190)
	closed, begun := 0, 0
	chains := [][]impl.Head{chainFrom(0, 4, 1), chainFrom(1, 4, 1), chainFrom(0, 4, 5)}
	var seals []impl.Seal
	for _, h := range slices.Concat(chains...) {
		seals = append(seals, sealOf(t, h.House, h))
	}
	for range 600 {
		var records []string
		for range drawn(&state, 40) {
			record := begunRecord(drawn(&state, 5))
			if drawn(&state, 4) > 0 {
				record = closedRecord(drawn(&state, 5), seals[drawn(&state, len(seals))])
			}
			if drawn(&state, 15) == 0 {
				record = turned(record, drawn(&state, min(len(record), 50)), byte(1+drawn(&state, 255)))
			}
			records = append(records, record)
		}
		c := makesCoord(t, "drawn records", drawn(&state, 2), drawn(&state, 3), coordDisk(records...))
		closed += len(c.Seals)
		begun += c.Try
	}
	if closed < 150 || begun < 1000 {
		t.Errorf("of drawn records %d epochs are closed, %d tries begun", closed, begun)
	}
}

// Of a torn file the records ahead of the tear are done, and no other.
func TestCoordNewOfTornFiles(t *testing.T) {
	records := coordRecords(t)
	text := framesByWords(records)
	for cut := range len(text) + 1 {
		c := makesCoord(t, "cut", 1, 1, diskOf(keptFile("coord", text[:cut])))
		if whole, _ := unframeByWords(text[:cut]); !sameKept(c, coordByWords(1, 1, coordDisk(whole...))) {
			t.Errorf("of %d bytes, with %d whole records, there is %s", cut, len(whole), shownCoord(c))
		}
	}
	for at := range records {
		begin := len(framesByWords(records[:at]))
		for place := range len(frameByWords(records[at])) {
			c := makesCoord(t, "turned", 1, 1, diskOf(keptFile("coord", turned(text, begin+place, 1))))
			if !sameKept(c, coordByWords(1, 1, coordDisk(records[:at]...))) {
				t.Errorf("with a byte of the record %d turned there is %s", at, shownCoord(c))
			}
		}
	}
	for what, piece := range brokenPieces() {
		c := makesCoord(t, what, 1, 1, diskOf(keptFile("coord", text+piece+frameByWords(begunRecord(500)))))
		if c.Try != 131 || len(c.Seals) != 2 {
			t.Errorf("%s: %s", what, shownCoord(c))
		}
	}
}

func TestCoordNewOfOtherDisks(t *testing.T) {
	log := keptLog("coord", coordRecords(t)...)
	whole := makesCoord(t, "the file alone", 1, 1, diskOf(log))
	for _, d := range []impl.Disk{diskOf(keptLog("a", "x"), log, file("zz", "12", 1)), diskOf(file("coord", log.Text, 0)), diskOf(log, keptLog("new", "x")), diskOf(append([]impl.File{log}, filesFrom(29).Files...)...)} {
		if c := makesCoord(t, "a right disk", 1, 1, d); !sameKept(c, whole) {
			t.Errorf("with other files there is %s", shownCoord(c))
		}
	}
	wrong := append(wrongDisks(), diskOf(log, log), diskOf(file("coord", log.Text, -1)), diskOf(file("coord", log.Text, len(log.Text)+1)), diskOf(log, keptFile("a", "")), diskOf(append([]impl.File{log}, filesFrom(30).Files...)...), diskOf(keptFile("coord", log.Text+turning(20001-len(log.Text)))))
	others := []impl.Disk{diskOf(), diskOf(keptFile("coord", "")), diskOf(keptFile("Coord", log.Text)), diskOf(keptFile("coor", log.Text)), diskOf(keptFile("coords", log.Text)), diskOf(keptFile("shard", log.Text)), diskOf(keptFile("new", log.Text))}
	for _, d := range append(wrong, others...) {
		if c := makesCoord(t, "no file that is right", 1, 1, d); c.Try != 0 || len(c.Seals) != 0 {
			t.Errorf("of a disk without a right file there is %s", shownCoord(c))
		}
	}
}

// What is not kept may be lost: a coordinator is then as the records that are left tell.
func TestFallCoordOfWhatIsNotKept(t *testing.T) {
	text := framesByWords(coordRecords(t))
	for _, ahead := range [][]impl.File{nil, {file("a", "12345", 2)}, {keptFile("a", ""), file("b", text, 7)}} {
		for _, kept := range []int{0, 1, 13, len(text) / 2, len(text) - 1, len(text)} {
			d := diskOf(append(slices.Clone(ahead), file("coord", text, kept), file("zz", "zz", 0))...)
			c := makesCoord(t, "not kept", 1, 1, d)
			for i, left := range append(someLefts(), powerLefts(len(d.Files), len(ahead), len(text))...) {
				// One in five, as each of them costs a pool.
				if i > 40 && i%5 != 0 {
					continue
				}
				fallen := fallsCoord(t, "not kept", c, left)
				if i%40 == 0 {
					isCoordOk(t, "not kept", fallen, true)
					isCoordOk(t, "not kept", risesCoord(t, "not kept", fallen), true)
				}
			}
		}
	}
}

// With a record written down behind it, all that was not kept is.
func TestFallCoordBehindAWrite(t *testing.T) {
	c := makesCoord(t, "not kept", 1, 1, diskOf(file("coord", framesByWords(coordRecords(t)), 0)))
	comesUpAgain(t, fallsAndKeeps(t, asks(t, c), nil))
	comesUpAgain(t, fallsAndKeeps(t, shutBy(t, c, 3), []int{-5}))
}

func TestFallCoordOfWrongDisks(t *testing.T) {
	for _, d := range wrongDisks() {
		for _, left := range someLefts() {
			c := makesCoord(t, "a wrong disk", 1, 1, d)
			fallen := fallsCoord(t, "a wrong disk", c, left)
			if !sameDisk(fallen.Disk, d) || fallen.Up {
				t.Error("a wrong disk is not as it was")
			}
		}
	}
	c := makesCoord(t, "a right disk", 1, 1, coordDisk(coordRecords(t)...))
	c.Disk = wrongDisks()[1]
	if fallen := fallsCoord(t, "a wrong disk in its place", c, nil); len(fallen.Seals) != 0 || fallen.Try != 0 {
		t.Errorf("with a wrong disk there is %s", shownCoord(fallen))
	}
}

// What a coordinator has but its house, K and disk is gone when it falls, its Pool, too: it is as its disk tells.
func TestCoordsFallAndRiseByTheDisk(t *testing.T) {
	for _, k := range rightSplits() {
		for what, c := range coordsOf(t, 1, k) {
			for _, up := range []bool{true, false} {
				other := impl.Coord{House: 1, K: k, Up: up, Disk: c.Disk, Pool: []string{"x"}, Seals: make([]impl.Seal, 2), Tries: []int{5}, Try: 9, Asking: true, Votes: []string{rootAt(0)}, Dones: []bool{true, true, true}}
				fallen := fallsCoord(t, what, other, nil)
				if !sameKept(fallen, c) || fallen.Asking {
					t.Errorf("%s: it falls as %s", what, shownCoord(fallen))
				}
				risen := risesCoord(t, what, other)
				if up && !sameCoord(risen, other) || !up && !sameKept(risen, c) {
					t.Errorf("%s: up %v, it rises as %s", what, up, shownCoord(risen))
				}
			}
			if c.Up {
				isCoord(t, what+" does not rise", risesCoord(t, what, c), c)
			}
		}
	}
}

func coordOkByWords(c impl.Coord) bool {
	parts := partsByWords(c.K)
	if !houseIsRight(c.House) || parts == 0 || len(c.Votes) != parts || len(c.Dones) != parts {
		return false
	}
	for _, vote := range c.Votes {
		if len(vote) != 0 && len(vote) != 16 || len(vote) > 0 && !c.Asking {
			return false
		}
	}
	return sameKept(c, coordByWords(c.House, c.K, c.Disk))
}

// otherCoords have one field another than this one, each; what must be wrong then is told by a name that begins with an exclamation mark.
func otherCoords(c impl.Coord) map[string]impl.Coord {
	list := map[string]impl.Coord{}
	add := func(what string, change func(o *impl.Coord)) {
		other := coordCopy(c)
		change(&other)
		list[what] = other
	}
	for _, n := range []int{-1, 0, 1, 2, 3, 4, 5, 256, 256 + 1, 1 << 32, math.MaxInt, math.MinInt} {
		if n != c.House {
			add("!House "+impl.Decimal(n), func(o *impl.Coord) { o.House = n })
		}
		if n != c.K {
			add("!K "+impl.Decimal(n), func(o *impl.Coord) { o.K = n })
		}
		if n != c.Try {
			add("!Try "+impl.Decimal(n), func(o *impl.Coord) { o.Try = n })
		}
	}
	add("up or not", func(o *impl.Coord) { o.Up = !o.Up })
	add("asking or not", func(o *impl.Coord) { o.Asking = !o.Asking })
	addPools(add)
	addSeals(c, add)
	addSeats(c, add)
	add("another file", func(o *impl.Coord) { o.Disk = diskOf(append(slices.Clone(o.Disk.Files), keptFile("zz", "x"))...) })
	add("a record more", func(o *impl.Coord) {
		o.Disk, _ = actsByWords(o.Disk, []impl.Act{addAct("coord", frameByWords("\x09"))})
	})
	if c.Try > 0 {
		add("!no disk", func(o *impl.Coord) { o.Disk = impl.Disk{} })
		add("!a wrong disk", func(o *impl.Coord) { o.Disk.Files[0].Kept = -1 })
		add("!another try begun", func(o *impl.Coord) {
			o.Disk, _ = actsByWords(o.Disk, []impl.Act{addAct("coord", frameByWords(begunRecord(900)))})
		})
	}
	return list
}

func addPools(add func(string, func(o *impl.Coord))) {
	add("!no Pool", func(o *impl.Coord) { o.Pool = nil })
	add("!another house's Pool", func(o *impl.Coord) { o.Pool = poolByWords((o.House + 1) % 3) })
	for _, at := range []int{0, 3, 9, 15} {
		add("!another key "+impl.Decimal(at), func(o *impl.Coord) { o.Pool[at] = turned(o.Pool[at], at, 1) })
	}
	add("!a key less", func(o *impl.Coord) { o.Pool = o.Pool[:15] })
	add("!a key more", func(o *impl.Coord) { o.Pool = append(o.Pool, o.Pool[0]) })
}

func addSeals(c impl.Coord, add func(string, func(o *impl.Coord))) {
	add("!a try more", func(o *impl.Coord) { o.Tries = append(o.Tries, o.Try) })
	add("!a seal more", func(o *impl.Coord) { o.Seals = append(o.Seals, impl.Seal{}) })
	add("!both more", func(o *impl.Coord) { o.Seals, o.Tries = append(o.Seals, impl.Seal{}), append(o.Tries, o.Try) })
	for at := range c.Seals {
		for what, change := range map[string]func(s *impl.Seal){
			"Root":  func(s *impl.Seal) { s.Root = turned(s.Root, 3, 1) },
			"Prev":  func(s *impl.Seal) { s.Prev += "x" },
			"House": func(s *impl.Seal) { s.House++ },
			"Epoch": func(s *impl.Seal) { s.Epoch++ },
			"At":    func(s *impl.Seal) { s.Sig.At++ },
			"Open":  func(s *impl.Seal) { s.Sig.Open[7] = turned(s.Sig.Open[7], 15, 128) },
			"Shut":  func(s *impl.Seal) { s.Sig.Shut[0] = turned(s.Sig.Shut[0], 0, 1) },
			"Sides": func(s *impl.Seal) { s.Sig.Sides = s.Sig.Sides[:3] },
		} {
			add("!another "+what+" of "+impl.Decimal(at), func(o *impl.Coord) { change(&o.Seals[at]) })
		}
		add("!another try of "+impl.Decimal(at), func(o *impl.Coord) { o.Tries[at]++ })
		add("!a seal less "+impl.Decimal(at), func(o *impl.Coord) { o.Seals = slices.Delete(o.Seals, at, at+1) })
		add("!a try less "+impl.Decimal(at), func(o *impl.Coord) { o.Tries = slices.Delete(o.Tries, at, at+1) })
	}
}

func addSeats(c impl.Coord, add func(string, func(o *impl.Coord))) {
	add("!no Votes", func(o *impl.Coord) { o.Votes = nil })
	add("!no Dones", func(o *impl.Coord) { o.Dones = nil })
	add("!a vote more", func(o *impl.Coord) { o.Votes = append(o.Votes, "") })
	add("!a vote less", func(o *impl.Coord) { o.Votes = o.Votes[1:] })
	add("!a done more", func(o *impl.Coord) { o.Dones = append(o.Dones, false) })
	add("!a done less", func(o *impl.Coord) { o.Dones = o.Dones[1:] })
	for shard := range c.Votes {
		at := impl.Decimal(shard)
		add("another done "+at, func(o *impl.Coord) { o.Dones[shard] = !o.Dones[shard] })
		add("a vote while asking "+at, func(o *impl.Coord) { o.Asking, o.Votes[shard] = true, rootAt(shard) })
		add("!a vote while not asking "+at, func(o *impl.Coord) { o.Asking, o.Votes[shard] = false, rootAt(shard) })
		for _, size := range []int{1, 15, 17, 32} {
			add("!a vote of another width "+at+", "+impl.Decimal(size), func(o *impl.Coord) { o.Asking, o.Votes[shard] = true, turning(size) })
		}
	}
	add("all votes", func(o *impl.Coord) {
		o.Asking = true
		for shard := range o.Votes {
			o.Votes[shard] = rootAt(shard)
		}
	})
	add("all done", func(o *impl.Coord) {
		for shard := range o.Dones {
			o.Dones[shard] = true
		}
	})
}

func TestCoordOkOfOtherCoords(t *testing.T) {
	for _, k := range rightSplits() {
		coords := coordsOf(t, 2-k, k)
		for what, c := range coords {
			isCoordOk(t, what, c, true)
		}
		for _, what := range []string{"fresh", "some votes", "one epoch, asking, some done", "four epochs", "one epoch, all done, fallen"} {
			for how, other := range otherCoords(coords[what]) {
				was := coordCopy(other)
				want := coordOkByWords(other)
				if want && how[0] == '!' {
					t.Fatalf("%s, %s: it should be wrong", what, how)
				}
				isCoordOk(t, what+", "+how, other, want)
				isCoord(t, what+": what was handed to CoordOk", other, was)
			}
		}
	}
	isCoordOk(t, "nothing", impl.Coord{}, false)
	isCoordOk(t, "not up", impl.Coord{Pool: poolByWords(0), Votes: []string{""}, Dones: []bool{true}}, true)
	for _, d := range wrongDisks() {
		isCoordOk(t, "of a wrong disk", impl.CoordNew(0, 0, d), true)
	}
}

// Coordinators that none of these functions made: every function answers, and none panics.
func TestCoordsOfAnyKindAreAnswered(t *testing.T) {
	coords := coordsOf(t, 1, 1)
	list := []impl.Coord{{}, {Up: true}, {Up: true, Asking: true}, {Up: true, Asking: true, Seals: make([]impl.Seal, 3), Pool: []string{"x"}}}
	for _, what := range []string{"one epoch, some votes, some done", "four epochs, all done"} {
		for _, other := range otherCoords(coords[what]) {
			list = append(list, other)
		}
	}
	for _, n := range []int{-1, 3, 64, math.MaxInt, math.MinInt} {
		list = append(list, impl.Coord{House: n, K: n, Up: true, Try: n, Asking: true, Tries: []int{n}, Seals: make([]impl.Seal, 5), Votes: []string{"", ""}, Dones: []bool{true}})
	}
	for _, c := range list {
		was := coordCopy(c)
		for _, x := range append(aLetterEach(), voteFor(c, 0, rootAt(1)), voteFor(c, 1, rootAt(2)), letterOf(5, 1, len(c.Seals), 1), letterOf(5, 2, len(c.Seals), 1)) {
			if next, told := impl.HearCoord(c, x); (!c.Up || !letterOkByWords(x) || !fromShard(x.Kind)) && (len(told) != 0 || !sameCoord(next, c)) {
				t.Errorf("%v makes %s of %s", x, shownCoord(next), shownCoord(c))
			}
		}
		begins(t, "any coordinator", c)
		givesUp(t, "any coordinator", c)
		if told := impl.TickCoord(c); !c.Up && len(told) != 0 {
			t.Errorf("%s tells %v", shownCoord(c), told)
		}
		fallsCoord(t, "any coordinator", c, []int{1})
		risesCoord(t, "any coordinator", c)
		isCoordOk(t, "any coordinator", c, coordOkByWords(c))
		isCoord(t, "any coordinator behind all that", c, was)
	}
}

// Where a list is too short, what is missing there is none; where it is too long, nobody asks for what is past the end.
func TestCoordsWithOtherSeats(t *testing.T) {
	right := shutBy(t, impl.CoordNew(1, 1, impl.Disk{}), 3)
	c := asks(t, right)
	c.Votes, c.Dones = nil, nil
	told := impl.TickCoord(c)
	areTold(t, "no seats", told, []impl.Letter{{Kind: 1, To: 1, Epoch: 2, Try: 2}, {Kind: 1, To: 2, Epoch: 2, Try: 2}, {Kind: 4, To: 1, Epoch: 1, Try: 1}, {Kind: 4, To: 2, Epoch: 1, Try: 1}})
	one, told := impl.HearCoord(c, voteFor(c, 1, rootAt(5)))
	if len(told) != 0 || !slices.Equal(one.Votes, []string{"", rootAt(5)}) {
		t.Errorf("one vote makes %q", one.Votes)
	}
	next, told := impl.HearCoord(one, voteFor(one, 0, rootAt(6)))
	isShutBy(t, one, next, told, map[int]string{0: rootAt(6), 1: rootAt(5)})
	if done, _ := impl.HearCoord(c, doneWith(c, 1)); !slices.Equal(done.Dones, []bool{false, true}) {
		t.Errorf("one done makes %v", done.Dones)
	}
	c.Votes, c.Dones = []string{rootAt(1), "", "", rootAt(2)}, []bool{true, true, false}
	areTold(t, "too many seats", impl.TickCoord(c), []impl.Letter{{Kind: 1, To: 2, Epoch: 2, Try: 2}})
	next, told = impl.HearCoord(c, voteFor(c, 1, rootAt(3)))
	isShutBy(t, c, next, told, map[int]string{0: rootAt(1), 1: rootAt(3)})
	c.Votes = []string{rootAt(1), rootAt(4), rootAt(5), rootAt(6)}
	next, told = impl.HearCoord(c, voteFor(c, 1, rootAt(3)))
	isShutBy(t, c, next, told, map[int]string{0: rootAt(1), 1: rootAt(4)})
	short := right
	short.Tries = nil
	areTold(t, "no tries", impl.TickCoord(short), []impl.Letter{{Kind: 4, To: 1, Epoch: 1}, {Kind: 4, To: 2, Epoch: 1}})
}

// Where no head comes of the votes, or it can't be sealed, they stay; with all that is needed put right, any vote closes.
func TestVotesThatMakeNoSeal(t *testing.T) {
	right := votedBy(t, asks(t, shutBy(t, impl.CoordNew(1, 1, impl.Disk{}), 3)), 4, 0)
	last := voteFor(right, 1, rootAt(5))
	for what, change := range map[string]func(c *impl.Coord){
		"another house's Pool":     func(c *impl.Coord) { c.Pool = poolByWords(0) },
		"no Pool":                  func(c *impl.Coord) { c.Pool = nil },
		"a Pool less one":          func(c *impl.Coord) { c.Pool = c.Pool[:15] },
		"another key in its place": func(c *impl.Coord) { c.Pool[1] = c.Pool[2] },
		"a vote of another width":  func(c *impl.Coord) { c.Votes[0] = "short" },
		"Seals that are no chain":  func(c *impl.Coord) { c.Seals[0].Prev = rootAt(0) },
		"Seals of another house":   func(c *impl.Coord) { c.Seals[0].House = 0 },
		"a house that is none":     func(c *impl.Coord) { c.House = 3 },
	} {
		c := coordCopy(right)
		change(&c)
		next, told := hearsCoord(t, what, c, last)
		if len(told) != 0 || next.Votes[1] != rootAt(5) || !next.Asking || !sameDisk(next.Disk, c.Disk) {
			t.Errorf("%s: %v is told, and there is %s", what, told, shownCoord(next))
		}
		changesNothing(t, what+", once more", next, last)
		areTold(t, what, impl.TickCoord(next)[:1], []impl.Letter{{Kind: 4, To: 1, Epoch: 1, Try: 1}})
		next.House, next.Pool, next.Seals, next.Votes[0] = right.House, right.Pool, right.Seals, right.Votes[0]
		shut, told := hearsCoord(t, what+", put right", next, voteFor(next, 0, rootAt(9)))
		isShutBy(t, next, shut, told, map[int]string{0: rootAt(4), 1: rootAt(5)})
	}
}

// A seal without a text can't be written down.
func TestSealsWithoutATextAreNotWritten(t *testing.T) {
	right := votedBy(t, asks(t, impl.CoordNew(1, 1, impl.Disk{})), 4, 0)
	for _, at := range []int{1, 9} {
		for _, key := range []string{"", "x", right.Pool[2] + "x"} {
			c := coordCopy(right)
			c.Pool[at] = key
			next, told := impl.HearCoord(c, voteFor(c, 1, rootAt(5)))
			if at == 1 && (len(told) != 0 || !sameCoord(next, c)) {
				t.Errorf("with a key %q in the pool %v is told, and there is %s", key, told, shownCoord(next))
			}
			// Of a key that is further off a hash alone is told, which there always is.
			if at == 9 && len(told) != 2 {
				t.Errorf("with a key %q further off %v is told", key, told)
			}
		}
	}
}

// ownCoord has all its texts in memory of its own.
func ownCoord(c impl.Coord) impl.Coord {
	c = coordCopy(c)
	for i, f := range c.Disk.Files {
		c.Disk.Files[i].Name, c.Disk.Files[i].Text = strings.Clone(f.Name), strings.Clone(f.Text)
	}
	lists := [][]string{c.Pool, c.Votes}
	for i, s := range c.Seals {
		c.Seals[i].Root, c.Seals[i].Prev = strings.Clone(s.Root), strings.Clone(s.Prev)
		lists = append(lists, s.Sig.Open, s.Sig.Shut, s.Sig.Sides)
	}
	for _, list := range lists {
		for i, text := range list {
			list[i] = strings.Clone(text)
		}
	}
	return c
}

// textListsOfCoord are told list by list, as none of them may share with another.
func textListsOfCoord(c impl.Coord) [][]string {
	lists := [][]string{textsOfDisk(c.Disk), c.Pool, c.Votes}
	for _, s := range c.Seals {
		lists = append(lists, []string{s.Root, s.Prev}, s.Sig.Open, s.Sig.Shut, s.Sig.Sides)
	}
	return lists
}

// wipeCoord writes into every list of a coordinator, and the spare room behind it.
func wipeCoord(c impl.Coord) {
	for _, s := range c.Seals[:cap(c.Seals)] {
		for _, list := range [][]string{s.Sig.Open, s.Sig.Shut, s.Sig.Sides} {
			clear(list[:cap(list)])
		}
	}
	clear(c.Seals[:cap(c.Seals)])
	clear(c.Disk.Files[:cap(c.Disk.Files)])
	clear(c.Pool[:cap(c.Pool)])
	clear(c.Tries[:cap(c.Tries)])
	clear(c.Votes[:cap(c.Votes)])
	clear(c.Dones[:cap(c.Dones)])
}

// coordAnswers are coordinators that every function makes of this one, which asks, lacks the last shard's vote, and has closed an epoch; all of them are new.
func coordAnswers(c impl.Coord, root string) []impl.Coord {
	down, quiet := c, c
	down.Up, quiet.Asking = false, false
	last := voteFor(c, 1<<c.K-1, root)
	list := []impl.Coord{impl.FallCoord(c, nil), impl.FallCoord(down, []int{9999}), impl.RiseCoord(c), impl.RiseCoord(down), impl.CoordNew(c.House, c.K, c.Disk)}
	noRoom := c
	noRoom.Disk = impl.Disk{Files: []impl.File{{Name: "coord", Text: strings.Repeat("x", 20000)}}}
	unheard := c
	unheard.Votes = make([]string, 1<<c.K)
	for _, from := range []impl.Coord{c, down, quiet, noRoom, unheard} {
		begun, _ := impl.BeginEpoch(from)
		given, _ := impl.GiveUp(from)
		list = append(list, begun, given)
		for _, x := range []impl.Letter{last, withTry(last, 999), voteFor(c, 0, root), doneWith(c, 0), doneWith(c, 1), {}} {
			heard, _ := impl.HearCoord(from, x)
			list = append(list, heard)
		}
	}
	return list
}

func TestCoordsAnswerNewMemory(t *testing.T) {
	c := ownCoord(coordsOf(t, 1, 1)["one epoch, some votes, some done"])
	was := ownCoord(c)
	root := strings.Clone(rootAt(7))
	given := append(slices.Concat(textListsOfCoord(c)...), root)
	answers, again := coordAnswers(c, root), coordAnswers(c, root)
	if len(answers) != 45 {
		t.Errorf("%d answers", len(answers))
	}
	for i, answer := range answers {
		isCoord(t, "again", again[i], answer)
		lists := textListsOfCoord(answer)
		for at, list := range lists {
			noneShares(t, "an answer and what was handed in", list, given)
			noneShares(t, "two lists of an answer", list, slices.Concat(lists[:at]...))
		}
	}
	for i, answer := range answers {
		keep := coordCopy(again[i])
		wipeCoord(answer)
		isCoord(t, "an answer, when another one is written into", again[i], keep)
	}
	isCoord(t, "what was handed in, when the answers are written into", c, was)
	closed, told := impl.HearCoord(c, voteFor(c, 1, root))
	clear(told[:cap(told)])
	tick := impl.TickCoord(closed)
	clear(tick[:cap(tick)])
	areTold(t, "once more", impl.TickCoord(closed), tickByWords(closed))
}

// Lists that are handed in may be pieces of longer ones, whose spare room is somebody else's.
func TestCoordsWriteIntoNoSpareRoom(t *testing.T) {
	c := coordsOf(t, 1, 1)["one epoch, some votes, some done"]
	room := coordCopy(impl.Coord{
		Disk:  diskOf(append(slices.Clone(c.Disk.Files), filesFrom(3).Files...)...),
		Pool:  append(slices.Clone(c.Pool), "a", "b", "c"),
		Seals: append(slices.Clone(c.Seals), c.Seals[0], c.Seals[0], c.Seals[0]),
		Tries: append(slices.Clone(c.Tries), 77, 78, 79),
		Votes: append(slices.Clone(c.Votes), "d", "e", "f"),
		Dones: append(slices.Clone(c.Dones), true, true, true),
	})
	was := coordCopy(room)
	given := c
	given.Disk.Files, given.Pool, given.Seals = room.Disk.Files[:1], room.Pool[:16], room.Seals[:1]
	given.Tries, given.Votes, given.Dones = room.Tries[:1], room.Votes[:2], room.Dones[:2]
	leftRoom := []int{5, 6, 7, 8}
	for i, answer := range append(coordAnswers(given, rootAt(7)), impl.FallCoord(given, leftRoom[:1])) {
		wipeCoord(answer)
		if !sameCoord(room, was) {
			t.Fatalf("the answer %d writes into the room behind a coordinator", i)
		}
	}
	clear(append(impl.TickCoord(given), impl.Letter{}))
	isCoordOk(t, "a piece", given, true)
	isCoord(t, "the room behind a coordinator", room, was)
	if !slices.Equal(leftRoom, []int{5, 6, 7, 8}) {
		t.Error("the room behind what is left was written into")
	}
}

// Every call answers from what it is given alone: again the same, whatever was closed, given up or lost between.
func TestCoordsKeepNothing(t *testing.T) {
	coords := coordsOf(t, 0, 1)
	for what, c := range coords {
		for _, other := range coords {
			hearsCoord(t, what, other, voteFor(other, 1, rootAt(9)))
			begins(t, what, other)
			fallsCoord(t, what, other, []int{3})
			hearsCoord(t, what, c, voteFor(c, 1, rootAt(8)))
			givesUp(t, what, c)
			ticks(t, what, c)
		}
	}
}
