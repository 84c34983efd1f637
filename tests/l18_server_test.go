package tests

import (
	"fmt"
	"math"
	"slices"
	"strings"
	"testing"

	"loop.example/g00284/impl"
)

// shardPlace is a shard that there is.
type shardPlace struct{ k, at int }

func shardPlaces() []shardPlace {
	return []shardPlace{{0, 0}, {1, 0}, {1, 1}, {2, 0}, {2, 1}, {2, 2}, {2, 3}}
}

// names are right ones of this shard, so many.
func (p shardPlace) names(count int) []string {
	var list []string
	for i := 10; len(list) < count; i++ {
		if name := "n" + impl.Decimal(i); shardByWords(name, p.k) == p.at {
			list = append(list, name)
		}
	}
	return list
}

// otherNames are right ones of all other shards, in turn; none where there is no other.
func (p shardPlace) otherNames() []string {
	var list []string
	for at := range 1 << p.k {
		if at != p.at {
			list = append(list, shardPlace{p.k, at}.names(3)...)
		}
	}
	return list
}

// changes are so many with Ids from first on; one in five lets its name go, and each name comes more than once when there are many.
func (p shardPlace) changes(first, count int) []impl.Change {
	var list []impl.Change
	names := p.names(9)
	for id := first; id < first+count; id++ {
		u := changeOf(id, names[(id*id+id)%9], "v"+impl.Decimal(id))
		if id%5 == 0 {
			u.Value = ""
		}
		list = append(list, u)
	}
	return list
}

func (p shardPlace) fresh() impl.Server {
	return impl.ServerNew(p.at, p.k, impl.Disk{})
}

func takenRecord(u impl.Change) string {
	return "\x01" + changeTextByWords(u)
}

func readyRecord(epoch, try, take int) string {
	return "\x02" + lengthByWords(epoch) + lengthByWords(try) + lengthByWords(take)
}

func committedRecord(epoch int) string {
	return "\x03" + lengthByWords(epoch)
}

func abortedRecord(epoch, try int) string {
	return "\x04" + lengthByWords(epoch) + lengthByWords(try)
}

func takenRecords(list ...impl.Change) []string {
	var records []string
	for _, u := range list {
		records = append(records, takenRecord(u))
	}
	return records
}

func shardDisk(records ...string) impl.Disk {
	return diskOf(keptLog("shard", records...))
}

// numbersByWords are all that stand in a text, one behind the other; false when something there is none, or has a longer form.
func numbersByWords(text string) ([]int, bool) {
	var list []int
	n, size := 0, 0
	for i := range len(text) {
		n += int(text[i]&127) << (7 * size)
		size++
		if text[i] >= 128 && size < 5 {
			continue
		}
		if text[i] >= 128 || text[i] == 0 && size > 1 || n > 1000000000 {
			return nil, false
		}
		list = append(list, n)
		n, size = 0, 0
	}
	return list, size == 0
}

func changeOfId(list []impl.Change, id int) (impl.Change, bool) {
	for _, u := range list {
		if u.Id == id {
			return u, true
		}
	}
	return impl.Change{}, false
}

func readyLeavesByWords(s impl.Server) []impl.Leaf {
	return applyAllByWords(nil, s.All[:s.Ready.Take])
}

func committedByWords(s impl.Server) impl.Server {
	s.Views = append(slices.Clone(s.Views), readyLeavesByWords(s))
	s.Taken = append(slices.Clone(s.Taken), s.Ready.Take)
	s.Epoch, s.Ready = s.Epoch+1, impl.Ready{}
	return s
}

// redoneByWords wants a server that was made of records.
func redoneByWords(s impl.Server, record string) impl.Server {
	n, right := numbersByWords(record[1:])
	kind := int(record[0])
	if kind > 1 && (!right || len(n) != map[int]int{2: 3, 3: 1, 4: 2}[kind]) {
		return s
	}
	switch kind {
	case 1:
		u, ok := readChangeByWords(record[1:])
		if _, there := changeOfId(s.All, u.Id); ok && !there && shardByWords(u.Name, s.K) == s.At {
			s.All = append(slices.Clone(s.All), u)
		}
	case 2:
		next := n[0] == s.Epoch+1 && n[0] <= 4 && n[1] > s.Ready.Try && n[1] <= 1000
		if next && n[2] >= s.Taken[s.Epoch] && n[2] <= len(s.All) {
			s.Ready = impl.Ready{Epoch: n[0], Try: n[1], Take: n[2]}
		}
	case 3:
		if n[0] == s.Ready.Epoch && s.Ready.Try > 0 {
			s = committedByWords(s)
		}
	case 4:
		if n[0] == s.Ready.Epoch && n[1] == s.Ready.Try {
			s.Ready = impl.Ready{}
		}
	}
	return s
}

func serverByWords(at, k int, d impl.Disk) impl.Server {
	s := impl.Server{At: at, K: k, Up: true, Disk: d, Views: [][]impl.Leaf{nil}, Taken: []int{0}}
	file := placeOf(d, "shard")
	if file < 0 || !diskOkByWords(d) {
		return s
	}
	records, _ := unframeByWords(d.Files[file].Text)
	for _, record := range records {
		s = redoneByWords(s, record)
	}
	return s
}

// writtenByWords is false, and the server as it was, when the record has no room.
func writtenByWords(s impl.Server, record string) (impl.Server, bool) {
	d, done := actsByWords(s.Disk, []impl.Act{addAct("shard", frameByWords(record)), keepAct("shard")})
	if done != 2 {
		return s, false
	}
	s.Disk = d
	return s, true
}

func takeByWords(s impl.Server, u impl.Change) (impl.Server, int) {
	if !s.Up || !changeOkByWords(u) || shardByWords(u.Name, s.K) != s.At {
		return s, 1
	}
	if other, there := changeOfId(s.All, u.Id); there {
		if other == u {
			return s, 0
		}
		return s, 1
	}
	next, ok := writtenByWords(s, takenRecord(u))
	if !ok || len(s.All)-s.Taken[len(s.Taken)-1] >= 12 {
		return s, 1
	}
	next.All = append(slices.Clone(s.All), u)
	return next, 0
}

func hearByWords(s impl.Server, x impl.Letter) (impl.Server, []impl.Letter) {
	if !s.Up || !letterOkByWords(x) || x.To != s.At+1 {
		return s, nil
	}
	asReady := x.Epoch == s.Ready.Epoch && x.Try == s.Ready.Try
	answer := impl.Letter{From: s.At + 1, Epoch: x.Epoch, Try: x.Try}
	next, ok := s, true
	switch {
	case x.Kind == 1 && (asReady || x.Epoch == s.Epoch+1 && x.Try > s.Ready.Try):
		if !asReady {
			next, ok = writtenByWords(s, readyRecord(x.Epoch, x.Try, len(s.All)))
			next.Ready = impl.Ready{Epoch: x.Epoch, Try: x.Try, Take: len(s.All)}
		}
		answer.Kind, answer.Root = 2, rowsByWords(readyLeavesByWords(next), 16)[s.K][s.At]
	case x.Kind == 3 && asReady:
		if next, ok = writtenByWords(s, abortedRecord(x.Epoch, x.Try)); ok {
			next.Ready = impl.Ready{}
		}
		return next, nil
	case x.Kind == 4 && asReady:
		if next, ok = writtenByWords(s, committedRecord(x.Epoch)); ok {
			next = committedByWords(next)
		}
		answer.Kind = 5
	case x.Kind == 4 && x.Epoch <= s.Epoch:
		answer.Kind = 5
	default:
		return s, nil
	}
	if !ok {
		return s, nil
	}
	return next, []impl.Letter{answer}
}

func fallByWords(s impl.Server, left []int) impl.Server {
	d, ok := loseByWords(s.Disk, left)
	if !ok {
		d = s.Disk
	}
	s = serverByWords(s.At, s.K, d)
	s.Up = false
	return s
}

// sameState is of what a server has but where it is, its disk, and whether it is up.
func sameState(a, b impl.Server) bool {
	views := slices.EqualFunc(a.Views, b.Views, slices.Equal[[]impl.Leaf])
	return views && a.Epoch == b.Epoch && slices.Equal(a.Taken, b.Taken) && slices.Equal(a.All, b.All) && a.Ready == b.Ready
}

func sameServer(a, b impl.Server) bool {
	return sameState(a, b) && sameDisk(a.Disk, b.Disk) && a.At == b.At && a.K == b.K && a.Up == b.Up
}

// serverCopy shares no list with the server.
func serverCopy(s impl.Server) impl.Server {
	s.Disk, s.Taken, s.All, s.Views = copyOf(s.Disk), slices.Clone(s.Taken), slices.Clone(s.All), slices.Clone(s.Views)
	for i, view := range s.Views {
		s.Views[i] = slices.Clone(view)
	}
	return s
}

// shown is a beginning of what there is, as numbers of a struct can't be cut short.
func shown(x any) string {
	if s, ok := x.(impl.Server); ok {
		s.Disk = impl.Disk{}
		x = s
	}
	text := fmt.Sprintf("%+v", x)
	return text[:min(len(text), 600)]
}

func isServer(t *testing.T, what string, got, want impl.Server) {
	t.Helper()
	if !sameServer(got, want) {
		t.Fatalf("%s: %s; want %s (or their disks are unlike)", what, shown(got), shown(want))
	}
}

func isServerOk(t *testing.T, what string, s impl.Server, want bool) {
	t.Helper()
	if got := impl.ServerOk(s); got != want {
		t.Errorf("%s: ServerOk of %s is %v", what, shown(s), got)
	}
}

// makes wants a right place to be made of the disk as the chapter says.
func makes(t *testing.T, what string, at, k int, d impl.Disk) impl.Server {
	t.Helper()
	was := copyOf(d)
	s := impl.ServerNew(at, k, d)
	isServer(t, what, s, serverByWords(at, k, d))
	if !sameDisk(d, was) {
		t.Fatalf("%s: ServerNew writes into its disk", what)
	}
	return s
}

func takes(t *testing.T, what string, s impl.Server, u impl.Change) (impl.Server, int) {
	t.Helper()
	was := serverCopy(s)
	next, code := impl.TakeChange(s, u)
	want, wantCode := takeByWords(was, u)
	if code != wantCode {
		t.Fatalf("%s: TakeChange of %s is %d; want %d", what, shown(u), code, wantCode)
	}
	isServer(t, what, next, want)
	isServer(t, what+": the server behind TakeChange", s, was)
	return next, code
}

func hears(t *testing.T, what string, s impl.Server, x impl.Letter) (impl.Server, []impl.Letter) {
	t.Helper()
	was := serverCopy(s)
	next, told := impl.HearServer(s, x)
	want, wantTold := hearByWords(was, x)
	if !slices.Equal(told, wantTold) {
		t.Fatalf("%s: %s is answered by %x; want %x", what, shown(x), told, wantTold)
	}
	isServer(t, what, next, want)
	isServer(t, what+": the server behind HearServer", s, was)
	return next, told
}

func falls(t *testing.T, what string, s impl.Server, left []int) impl.Server {
	t.Helper()
	was, wasLeft := serverCopy(s), slices.Clone(left)
	next := impl.FallServer(s, left)
	isServer(t, what, next, fallByWords(was, left))
	isServer(t, what+": the server behind FallServer", s, was)
	if !slices.Equal(left, wasLeft) {
		t.Fatalf("%s: FallServer writes into what is left", what)
	}
	return next
}

func rises(t *testing.T, what string, s impl.Server) impl.Server {
	t.Helper()
	was := serverCopy(s)
	want := was
	if !s.Up {
		want = serverByWords(s.At, s.K, s.Disk)
	}
	next := impl.RiseServer(s)
	isServer(t, what, next, want)
	isServer(t, what+": the server behind RiseServer", s, was)
	return next
}

// tookAll wants all of them to be taken in.
func tookAll(t *testing.T, s impl.Server, list ...impl.Change) impl.Server {
	t.Helper()
	for _, u := range list {
		var code int
		if s, code = takes(t, "a change", s, u); code != 0 {
			t.Fatalf("%v is not taken in", u)
		}
	}
	return s
}

// toShard is a letter of the coordinator's to this server.
func toShard(s impl.Server, kind, epoch, try int) impl.Letter {
	return impl.Letter{Kind: kind, To: s.At + 1, Epoch: epoch, Try: try}
}

// votes wants a vote for the epoch behind.
func votes(t *testing.T, s impl.Server, try int) (impl.Server, impl.Letter) {
	t.Helper()
	next, told := hears(t, "LtPrepare", s, toShard(s, impl.LtPrepare, s.Epoch+1, try))
	if len(told) != 1 || told[0].Kind != impl.LtVote {
		t.Fatalf("LtPrepare of the try %d is answered by %x", try, told)
	}
	return next, told[0]
}

// closes votes for the epoch behind, and commits it.
func closes(t *testing.T, s impl.Server, try int) impl.Server {
	t.Helper()
	s, vote := votes(t, s, try)
	next, told := hears(t, "LtCommit", s, toShard(s, impl.LtCommit, vote.Epoch, try))
	if len(told) != 1 || told[0].Kind != impl.LtDone || next.Epoch != s.Epoch+1 {
		t.Fatalf("LtCommit of the epoch %d is answered by %x", vote.Epoch, told)
	}
	return next
}

func aborts(t *testing.T, s impl.Server) impl.Server {
	t.Helper()
	next, told := hears(t, "LtAbort", s, toShard(s, impl.LtAbort, s.Ready.Epoch, s.Ready.Try))
	if len(told) != 0 || next.Ready != (impl.Ready{}) {
		t.Fatalf("LtAbort is answered by %x, and leaves %v", told, next.Ready)
	}
	return next
}

// serversOf are all of one shard, at every point of its life, by what they are.
func serversOf(t *testing.T, p shardPlace) map[string]impl.Server {
	t.Helper()
	u := p.changes(1, 40)
	list := map[string]impl.Server{"fresh": p.fresh()}
	list["with changes"] = tookAll(t, p.fresh(), u[:3]...)
	ready, _ := votes(t, list["with changes"], 5)
	list["ready"] = ready
	list["ready, with more changes"] = tookAll(t, ready, u[3:6]...)
	again, _ := votes(t, list["ready, with more changes"], 9)
	list["ready again"] = again
	list["ready no more"] = aborts(t, again)
	one := closes(t, list["ready no more"], 2)
	list["one epoch"] = one
	list["one epoch, with changes"] = tookAll(t, one, u[6:9]...)
	list["one epoch, ready"], _ = votes(t, list["one epoch, with changes"], 1)
	two := closes(t, tookAll(t, list["one epoch, ready"], u[9:12]...), 3)
	list["three epochs"] = closes(t, tookAll(t, two, u[12:16]...), 999)
	list["three epochs, ready"], _ = votes(t, tookAll(t, list["three epochs"], u[16:20]...), 1000)
	four := closes(t, list["three epochs, ready"], 1000)
	list["four epochs, with changes"] = tookAll(t, four, u[20:26]...)
	list["as many waits as there may be"] = tookAll(t, four, u[20:32]...)
	for _, what := range []string{"fresh", "with changes", "ready", "one epoch, ready", "four epochs, with changes"} {
		list[what+", fallen"] = falls(t, "a fall", list[what], nil)
	}
	return list
}

func TestServerConstants(t *testing.T) {
	if impl.NameShard != "shard" || impl.MaxQueue != 12 {
		t.Error("a constant of chapter 18 is another one")
	}
}

func TestServerNewOfNothing(t *testing.T) {
	for _, p := range shardPlaces() {
		s := p.fresh()
		zero := impl.Server{At: p.at, K: p.k, Up: true, Views: [][]impl.Leaf{{}}, Taken: []int{0}}
		isServer(t, "no file", s, zero)
		isServerOk(t, "no file", s, true)
		if len(impl.WaitsOf(s)) != 0 || len(impl.ReadyLeaves(s)) != 0 {
			t.Error("a shard of nothing waits, or is ready")
		}
	}
}

func TestServerFileBytes(t *testing.T) {
	s := impl.ServerNew(0, 0, impl.Disk{})
	s, _ = impl.TakeChange(s, changeOf(7, "ann", "k1"))
	s, _ = impl.TakeChange(s, changeOf(99, "bob", ""))
	for _, x := range []impl.Letter{{Kind: 1, To: 1, Epoch: 1, Try: 200}, {Kind: 3, To: 1, Epoch: 1, Try: 200}, {Kind: 1, To: 1, Epoch: 1, Try: 3}, {Kind: 4, To: 1, Epoch: 1, Try: 3}} {
		s, _ = impl.HearServer(s, x)
	}
	want := []string{"\x01\x07\x03ann\x02k1", "\x01\x63\x03bob\x00", "\x02\x01\xc8\x01\x02", "\x04\x01\xc8\x01", "\x02\x01\x03\x02", "\x03\x01"}
	hasTexts(t, "a shard's file", s.Disk, "shard", want)
	if !sameDisk(s.Disk, shardDisk(want...)) {
		t.Errorf("a shard's disk is %s", shown(s.Disk))
	}
}

// P18: a shard comes up again as it was, votes for what it would commit, and commits what it voted for, in drawn lives.
func TestServersInDrawnLives(t *testing.T) {
	state := uint64(18)
	closed, voted, fallen := 0, 0, 0
	for _, p := range shardPlaces() {
		for range 25 {
			s := p.fresh()
			for range 60 {
				s = drawnMove(t, &state, p, s)
				isServerOk(t, "in a drawn life", s, true)
				if !s.Up {
					fallen++
				} else if s.Ready.Try > 0 {
					votesForWhatItCommits(t, &state, s)
					voted++
				}
			}
			closed += s.Epoch
		}
	}
	if closed < 250 || voted < 2000 || fallen < 800 {
		t.Errorf("%d epochs are closed, %d votes held, %d falls seen", closed, voted, fallen)
	}
}

// drawnMove is one of all that can happen to a shard, mostly of what fits just now.
func drawnMove(t *testing.T, state *uint64, p shardPlace, s impl.Server) impl.Server {
	t.Helper()
	if !s.Up && drawn(state, 2) == 0 {
		return comesUpAsItWas(t, s)
	}
	switch move := drawn(state, 12); {
	case move < 5:
		s, _ = takes(t, "a drawn change", s, drawnOf(state, p, s))
	case move == 11:
		return fallsAsItWas(t, s, drawnLeft(state))
	default:
		x := toShard(s, []int{1, 1, 1, 3, 4, 4}[move-5], s.Epoch+1, max(1, s.Ready.Try))
		switch drawn(state, 6) {
		case 0:
			x.Try += drawn(state, 4) - 1
		case 1:
			x.Epoch = drawn(state, 7)
		case 2:
			x.To = drawn(state, 5)
		}
		s, _ = hears(t, "a drawn letter", s, x)
	}
	return s
}

// drawnOf is mostly of this shard and of a new Id; sometimes it comes twice, or has an Id that another one has.
func drawnOf(state *uint64, p shardPlace, s impl.Server) impl.Change {
	if len(s.All) > 0 && drawn(state, 4) == 0 {
		return s.All[drawn(state, len(s.All))]
	}
	u := changeOf(1+drawn(state, 99), p.names(30)[drawn(state, 30)], "v"+impl.Decimal(drawn(state, 9)))
	switch others := p.otherNames(); drawn(state, 8) {
	case 0:
		u.Value = ""
	case 1:
		return drawnChange(state)
	case 2:
		if len(others) > 0 {
			u.Name = others[drawn(state, len(others))]
		}
	}
	return u
}

// drawnLeft is no loss, every loss at once, or some.
func drawnLeft(state *uint64) []int {
	switch drawn(state, 4) {
	case 0:
		return []int{math.MaxInt, math.MaxInt}
	case 1:
		return nil
	}
	return []int{drawn(state, 400) - 100, drawn(state, 9)}
}

// fallsAsItWas wants nothing to be lost: all that a shard has is kept.
func fallsAsItWas(t *testing.T, s impl.Server, left []int) impl.Server {
	t.Helper()
	fallen := falls(t, "a fall", s, left)
	if fallen.Up || !sameState(fallen, s) || !sameDisk(fallen.Disk, s.Disk) {
		t.Fatalf("with %v left, %s falls as %s", left, shown(s), shown(fallen))
	}
	return fallen
}

func comesUpAsItWas(t *testing.T, fallen impl.Server) impl.Server {
	t.Helper()
	s := rises(t, "a rise", fallen)
	if !s.Up || !sameState(s, fallen) || !sameDisk(s.Disk, fallen.Disk) {
		t.Fatalf("%s rises as %s", shown(fallen), shown(s))
	}
	return s
}

// votesForWhatItCommits asks a shard that is ready again, also when it fell in between and took in more, and then has it commit.
func votesForWhatItCommits(t *testing.T, state *uint64, s impl.Server) {
	t.Helper()
	ready, leaves := s.Ready, impl.ReadyLeaves(s)
	asked := toShard(s, impl.LtPrepare, ready.Epoch, ready.Try)
	again, told := impl.HearServer(s, asked)
	if len(told) != 1 || told[0] != (impl.Letter{Kind: impl.LtVote, From: s.At + 1, Epoch: ready.Epoch, Try: ready.Try, Root: impl.ShardRoot(leaves, s.K, s.At, 16)}) {
		t.Fatalf("asked again for %v, it votes %x", ready, told)
	}
	isServer(t, "asked again", again, s)
	vote := told[0]
	more := impl.RiseServer(impl.FallServer(s, drawnLeft(state)))
	more, _ = impl.TakeChange(more, changeOf(1+drawn(state, 99), shardPlace{s.K, s.At}.names(1)[0], "more"))
	if _, told = impl.HearServer(more, asked); len(told) != 1 || told[0] != vote {
		t.Fatalf("asked again behind a fall, it votes %x; it voted %x", told, vote)
	}
	for _, voter := range []impl.Server{s, more} {
		next, told := impl.HearServer(voter, toShard(s, impl.LtCommit, ready.Epoch, ready.Try))
		if len(told) != 1 || told[0].Kind != impl.LtDone || next.Epoch != ready.Epoch || len(next.Views) != ready.Epoch+1 {
			t.Fatalf("a commit of %v is answered by %x", ready, told)
		}
		sameLeaves(t, "what is committed", next.Views[ready.Epoch], true, leaves, true)
		isHash(t, "what it voted for", impl.ShardRoot(next.Views[ready.Epoch], s.K, s.At, 16), vote.Root)
		if next.Taken[ready.Epoch] != ready.Take || next.Ready != (impl.Ready{}) {
			t.Fatalf("a commit of %v leaves %v taken, %v ready", ready, next.Taken, next.Ready)
		}
	}
}

// P18, at every point of a shard's life and with every loss.
func TestServersComeUpAsTheyWere(t *testing.T) {
	for _, p := range shardPlaces() {
		for what, s := range serversOf(t, p) {
			for _, left := range append(someLefts(), powerLefts(1, 0, len(s.Disk.Files))...) {
				fallen := fallsAsItWas(t, s, left)
				isServerOk(t, what, fallen, true)
				isServerOk(t, what, comesUpAsItWas(t, fallen), true)
				fallsAsItWas(t, fallen, left)
			}
			isServerOk(t, what, s, true)
		}
	}
}

func TestWaitsOf(t *testing.T) {
	for _, p := range shardPlaces() {
		u := p.changes(1, 30)
		s := tookAll(t, p.fresh(), u[:5]...)
		hasWaits(t, "nothing closed", s, u[:5])
		s, _ = votes(t, s, 1)
		s = tookAll(t, s, u[5:7]...)
		hasWaits(t, "ready", s, u[:7])
		s, _ = hears(t, "a commit", s, toShard(s, impl.LtCommit, 1, 1))
		hasWaits(t, "one epoch", s, u[5:7])
		s = closes(t, s, 2)
		hasWaits(t, "two epochs", s, nil)
		hasWaits(t, "more", tookAll(t, s, u[7:19]...), u[7:19])
	}
}

func hasWaits(t *testing.T, what string, s impl.Server, want []impl.Change) {
	t.Helper()
	if got := impl.WaitsOf(s); !slices.Equal(got, want) {
		t.Errorf("%s: WaitsOf is %v; want %v", what, got, want)
	}
}

// Servers that none of these functions made are answered, too: what is told of past the end, or below 0, is not there.
func TestWaitsAndReadyLeavesOfAnyServer(t *testing.T) {
	u := shardPlace{0, 0}.changes(1, 4)
	for _, c := range []struct {
		taken []int
		first int
	}{{nil, 0}, {[]int{0}, 0}, {[]int{0, 3}, 3}, {[]int{3, 1}, 1}, {[]int{0, 4}, 4}, {[]int{5}, 4}, {[]int{-1}, 0}, {[]int{math.MaxInt}, 4}, {[]int{math.MinInt}, 0}} {
		hasWaits(t, "any Taken", impl.Server{Taken: c.taken, All: u}, u[c.first:])
	}
	for take, count := range map[int]int{0: 0, 1: 1, 3: 3, 4: 4, 5: 4, -1: 0, math.MaxInt: 4, math.MinInt: 0} {
		got := impl.ReadyLeaves(impl.Server{All: u, Ready: impl.Ready{Take: take}})
		sameLeaves(t, "any Take", got, true, applyAllByWords(nil, u[:count]), true)
	}
	hasWaits(t, "nothing", impl.Server{}, nil)
	sameLeaves(t, "nothing", impl.ReadyLeaves(impl.Server{}), true, nil, true)
}

func TestReadyLeaves(t *testing.T) {
	for _, p := range shardPlaces() {
		for what, s := range serversOf(t, p) {
			sameLeaves(t, what, impl.ReadyLeaves(s), true, readyLeavesByWords(s), true)
			if s.Ready.Try == 0 && len(impl.ReadyLeaves(s)) != 0 {
				t.Errorf("%s: leaves are ready where nothing is", what)
			}
		}
	}
	full := shardPlace{0, 0}.fresh()
	for i := range 40 {
		if i%12 == 0 {
			full = closesOrStays(t, full)
		}
		full, _ = takes(t, "many names", full, changeOf(1+i, "m"+impl.Decimal(10+i), "v"))
	}
	full, vote := votes(t, full, 7)
	if leaves := impl.ReadyLeaves(full); len(leaves) != impl.MaxLeaves || vote.Root != impl.RootOf(leaves, 16) {
		t.Errorf("of 40 names %d leaves are ready", len(leaves))
	}
}

func closesOrStays(t *testing.T, s impl.Server) impl.Server {
	t.Helper()
	if s.Epoch >= 3 {
		return s
	}
	return closes(t, s, 1)
}

func TestTakeChangeThatComesTwice(t *testing.T) {
	for _, p := range shardPlaces() {
		for what, s := range serversOf(t, p) {
			for _, u := range s.All {
				next, code := takes(t, what, s, u)
				if (code == 0) != s.Up {
					t.Errorf("%s: %v comes twice: %d", what, u, code)
				}
				isServer(t, what, next, s)
				for _, other := range otherChanges(p, u) {
					next, code := takes(t, what, s, other)
					if code != 1 {
						t.Errorf("%s: %v comes behind %v: %d", what, other, u, code)
					}
					isServer(t, what, next, s)
				}
			}
		}
	}
}

// otherChanges have the Id of this one, and one thing another.
func otherChanges(p shardPlace, u impl.Change) []impl.Change {
	name := p.names(30)[29]
	return []impl.Change{changeOf(u.Id, name, u.Value), changeOf(u.Id, u.Name, u.Value+"x"), changeOf(u.Id, u.Name, "-"), changeOf(u.Id, name, "x"), changeOf(u.Id, u.Name, strings.Repeat("z", 12))}
}

// A change with the fields of one that is there, but its Id, is another one.
func TestTakeChangeAlikeButForItsId(t *testing.T) {
	u := changeOf(5, "ann", "k1")
	s := tookAll(t, shardPlace{0, 0}.fresh(), u, changeOf(6, "ann", "k1"), changeOf(4, "ann", "k1"))
	if len(s.All) != 3 {
		t.Errorf("%d changes are taken in", len(s.All))
	}
}

func TestTakeChangeOfAnotherShard(t *testing.T) {
	for _, p := range shardPlaces() {
		for what, s := range serversOf(t, p) {
			for _, name := range p.otherNames() {
				next, code := takes(t, what, s, changeOf(77, name, "v"))
				if code != 1 {
					t.Errorf("%s: %q of another shard is taken in by %v", what, name, p)
				}
				isServer(t, what, next, s)
			}
		}
		taken := 0
		for index := range 256 {
			if _, code := takes(t, "each index", p.fresh(), changeOf(1, namesOfIndex(index, 1)[0], "")); code == 0 {
				taken++
			}
		}
		if taken != 256>>p.k {
			t.Errorf("%v takes names of %d indexes", p, taken)
		}
	}
}

// With a K that is none all names are in the shard 0.
func TestTakeChangeOfShardsThatAreNone(t *testing.T) {
	for _, k := range append(wrongSplits(), 0, 1, 2) {
		for _, at := range []int{-1, 0, 1, 2, 3, 4, 5, 256, math.MaxInt, math.MinInt} {
			s := makes(t, "any shard", at, k, impl.Disk{})
			for _, name := range []string{"ann", "bob", "n10", "n11", "n12", "n13"} {
				next, code := takes(t, "any shard", s, changeOf(1, name, "v"))
				if code == 0 {
					rises(t, "any shard", falls(t, "any shard", next, nil))
				}
			}
		}
	}
}

func TestTakeChangeThatIsNotRight(t *testing.T) {
	for _, p := range shardPlaces() {
		for _, u := range wrongChanges() {
			if _, code := takes(t, "a wrong change", p.fresh(), u); code != 1 {
				t.Errorf("%s is taken in", shown(u))
			}
		}
	}
	for _, u := range rightChanges() {
		if _, code := takes(t, "a right change", (shardPlace{0, 0}).fresh(), u); code != 0 {
			t.Errorf("%v is not taken in", u)
		}
	}
}

// Also where the very same is there: such a server none of these functions made.
func TestTakeChangeThatIsNotRightAndComesTwice(t *testing.T) {
	for _, u := range []impl.Change{{}, changeOf(100, "ann", "v"), changeOf(1, "Ann", "v"), changeOf(1, "ann", "a b")} {
		s := impl.ServerNew(0, 0, impl.Disk{})
		s.All = []impl.Change{u}
		if next, code := impl.TakeChange(s, u); code != 1 || !sameServer(next, s) {
			t.Errorf("%v comes twice: %d", u, code)
		}
	}
}

func TestTakeChangeOfAServerThatIsNotUp(t *testing.T) {
	for _, p := range shardPlaces() {
		u := p.changes(1, 9)
		for _, s := range []impl.Server{p.fresh(), tookAll(t, p.fresh(), u[:4]...), closes(t, tookAll(t, p.fresh(), u[:4]...), 1)} {
			fallen := falls(t, "a fall", s, nil)
			for _, v := range u {
				if next, code := takes(t, "not up", fallen, v); code != 1 || !sameServer(next, fallen) {
					t.Errorf("a server that is not up answers %d to %v", code, v)
				}
			}
		}
	}
}

func TestTakeChangeAtTheLimit(t *testing.T) {
	for _, p := range shardPlaces() {
		u := p.changes(1, 60)
		s := tookAll(t, p.fresh(), u[:impl.MaxQueue]...)
		next, code := takes(t, "one wait more", s, u[12])
		if code != 1 || len(impl.WaitsOf(next)) != 12 {
			t.Errorf("with MaxQueue waits one more: %d", code)
		}
		isServer(t, "one wait more", next, s)
		if _, code := takes(t, "one that is there", s, u[3]); code != 0 {
			t.Errorf("with MaxQueue waits one comes twice: %d", code)
		}
		ready, _ := votes(t, s, 1)
		if _, code := takes(t, "ready", ready, u[12]); code != 1 {
			t.Errorf("what is ready waits no more: %d", code)
		}
		s = tookAll(t, closes(t, s, 2), u[12:23]...)
		s = tookAll(t, s, u[23])
		if _, code := takes(t, "one wait more", s, u[24]); code != 1 {
			t.Errorf("behind an epoch with MaxQueue waits one more: %d", code)
		}
	}
}

// fullDisk has these records in the shard's file, and so much in it besides that this many bytes are left.
func fullDisk(t *testing.T, room int, records ...string) impl.Disk {
	t.Helper()
	text := framesByWords(append(slices.Clone(records), "\x09"+turning(8999), "\x00"+turning(4999)))
	text += frameByWords("\xff" + turning(20000-room-len(text)-7))
	if len(text) != 20000-room {
		t.Fatalf("%d bytes, to leave %d", len(text), room)
	}
	return diskOf(keptFile("shard", text))
}

// What can't be written changes nothing; what has just the room it needs is done.
func TestServersWithoutRoom(t *testing.T) {
	u := shardPlace{0, 0}.changes(1, 6)
	base := append(takenRecords(u[:3]...), readyRecord(1, 3, 2), committedRecord(1), readyRecord(2, 4, 3))
	s := impl.ServerNew(0, 0, shardDisk(base...))
	for what, c := range map[string]struct {
		record string
		do     func(s impl.Server) (impl.Server, bool)
	}{
		"a change":  {takenRecord(u[5]), func(s impl.Server) (impl.Server, bool) { s, code := takes(t, "a change", s, u[5]); return s, code == 0 }},
		"a prepare": {readyRecord(2, 200, 3), heard(t, toShard(s, 1, 2, 200))},
		"a commit":  {committedRecord(2), heard(t, toShard(s, 4, 2, 4))},
		"an abort":  {abortedRecord(2, 4), heard(t, toShard(s, 3, 2, 4))},
	} {
		need := len(frameByWords(c.record))
		for room := range need + 2 {
			full := makes(t, what, 0, 0, fullDisk(t, room, base...))
			next, done := c.do(full)
			if done != (room >= need) {
				t.Errorf("%s that needs %d bytes, with room for %d: %v", what, need, room, done)
			}
			if !done {
				isServer(t, what, next, full)
			}
			isServerOk(t, what, next, true)
		}
	}
}

// heard tells whether anything came of a letter.
func heard(t *testing.T, x impl.Letter) func(s impl.Server) (impl.Server, bool) {
	return func(s impl.Server) (impl.Server, bool) {
		next, _ := hears(t, "a letter", s, x)
		return next, !sameServer(next, s)
	}
}

// What needs nothing written is told without any room, too.
func TestServersWithoutAnyRoom(t *testing.T) {
	u := shardPlace{0, 0}.changes(1, 6)
	base := append(takenRecords(u[:3]...), readyRecord(1, 3, 2), committedRecord(1), readyRecord(2, 4, 3))
	s := makes(t, "no room", 0, 0, fullDisk(t, 0, base...))
	if _, code := takes(t, "no room", s, u[1]); code != 0 {
		t.Errorf("what is there comes twice: %d", code)
	}
	for x, kind := range map[impl.Letter]int{toShard(s, 1, 2, 4): impl.LtVote, toShard(s, 4, 1, 3): impl.LtDone, toShard(s, 4, 1, 9): impl.LtDone} {
		if _, told := hears(t, "no room", s, x); len(told) != 1 || told[0].Kind != kind {
			t.Errorf("%v is answered by %x", x, told)
		}
	}
	if p, ok := impl.LookServer(s, 1, u[0].Name); !ok || impl.ProofHash(u[0].Name, p, 16) != impl.RootOf(s.Views[1], 16) {
		t.Error("no room, no look")
	}
	for i, d := range append(wrongDisks(), filesFrom(30)) {
		s := makes(t, "no place for a file", 0, 0, d)
		for _, x := range []impl.Letter{toShard(s, 1, 1, 1), toShard(s, 3, 1, 1), toShard(s, 4, 1, 1)} {
			if next, told := hears(t, "no place for a file", s, x); len(told) != 0 || !sameServer(next, s) {
				t.Errorf("disk %d: %v is answered by %x", i, x, told)
			}
		}
		if next, code := takes(t, "no place for a file", s, u[0]); code != 1 || !sameServer(next, s) {
			t.Errorf("disk %d: a change: %d", i, code)
		}
	}
	if _, code := takes(t, "a place for a file", makes(t, "29 files", 0, 0, filesFrom(29)), u[0]); code != 0 {
		t.Errorf("a change beside 29 files: %d", code)
	}
}

// Each kind of letter, with every epoch, tries below, at and above the one that is ready, to every node.
func TestHearServerOfEveryLetter(t *testing.T) {
	for _, p := range []shardPlace{{0, 0}, {1, 1}, {2, 2}} {
		for what, s := range serversOf(t, p) {
			for _, kind := range []int{0, 1, 2, 3, 4, 5, 6} {
				for epoch := range 7 {
					for _, try := range []int{s.Ready.Try - 1, s.Ready.Try, s.Ready.Try + 1, 1, 1000, 1001} {
						x := letterOf(kind, p.at+1, epoch, try)
						hears(t, what, s, x)
						x.To = (p.at + epoch + try) % 6
						hears(t, what, s, x)
					}
				}
			}
		}
	}
}

func TestHearServerOfLettersThatAreNotRightOrNotToIt(t *testing.T) {
	for _, p := range shardPlaces() {
		s, _ := votes(t, tookAll(t, p.fresh(), p.changes(1, 3)...), 5)
		for _, x := range append(wrongLetters(), impl.Letter{}) {
			hearsNothing(t, "a wrong letter", s, x)
		}
		for _, kind := range []int{1, 3, 4} {
			for node := 1; node <= 4; node++ {
				if node != p.at+1 {
					hearsNothing(t, "a letter to another one", s, letterOf(kind, node, 1, 5))
				}
			}
			x := toShard(s, kind, 1, 5)
			for _, other := range []impl.Letter{withEnds(x, x.To, x.To), withEnds(x, x.To, 0), withEnds(x, -1, x.To), withRoot(x, rootAt(0)), withRoot(x, "r"), withTry(x, 1001), withTry(x, 0), withEpoch(x, 0), withEpoch(x, 5)} {
				hearsNothing(t, "a letter that is not right", s, other)
			}
		}
		for _, kind := range []int{2, 5} {
			hearsNothing(t, "another one's letter", s, letterOf(kind, p.at+1, 1, 5))
		}
	}
}

func hearsNothing(t *testing.T, what string, s impl.Server, x impl.Letter) {
	t.Helper()
	if next, told := hears(t, what, s, x); len(told) != 0 || !sameServer(next, s) {
		t.Errorf("%s: %s is answered by %x", what, shown(x), told)
	}
}

func TestHearServerThatIsNotUp(t *testing.T) {
	for _, p := range shardPlaces() {
		for what, s := range serversOf(t, p) {
			fallen := falls(t, "a fall", s, []int{7})
			for _, kind := range letterKinds() {
				for _, epoch := range []int{max(s.Epoch, 1), s.Epoch + 1} {
					for _, try := range []int{max(s.Ready.Try, 1), s.Ready.Try + 1} {
						hearsNothing(t, what, fallen, letterOf(kind, p.at+1, epoch, try))
					}
				}
			}
		}
	}
}

func TestHearServerPrepares(t *testing.T) {
	for _, p := range shardPlaces() {
		u := p.changes(1, 9)
		s, first := votes(t, tookAll(t, p.fresh(), u[:2]...), 5)
		if s.Ready != (impl.Ready{Epoch: 1, Try: 5, Take: 2}) || first.From != p.at+1 || first.To != 0 || first.Epoch != 1 || first.Try != 5 {
			t.Errorf("%v is ready, and votes %v", s.Ready, first)
		}
		isHash(t, "a vote", first.Root, rowsByWords(applyAllByWords(nil, u[:2]), 16)[p.k][p.at])
		s = tookAll(t, s, u[2:7]...)
		same, second := votes(t, s, 5)
		if second != first || !sameServer(same, s) {
			t.Errorf("asked again it votes %x; it voted %x", second, first)
		}
		for _, try := range []int{1, 4} {
			hearsNothing(t, "a try that is gone", s, toShard(s, 1, 1, try))
		}
		for _, epoch := range []int{2, 3, 4} {
			hearsNothing(t, "an epoch to come", s, toShard(s, 1, epoch, 5))
			hearsNothing(t, "an epoch to come", s, toShard(s, 1, epoch, 6))
		}
		s, third := votes(t, s, 6)
		if s.Ready != (impl.Ready{Epoch: 1, Try: 6, Take: 7}) || third.Root != impl.ShardRoot(applyAllByWords(nil, u[:7]), p.k, p.at, 16) {
			t.Errorf("%v is ready, and votes %v", s.Ready, third)
		}
		hearsNothing(t, "the try that is gone", s, toShard(s, 1, 1, 5))
		s, _ = votes(t, aborts(t, s), 1)
		if s.Ready != (impl.Ready{Epoch: 1, Try: 1, Take: 7}) {
			t.Errorf("behind an abort %v is ready", s.Ready)
		}
	}
}

func TestHearServerAborts(t *testing.T) {
	for _, p := range shardPlaces() {
		u := p.changes(1, 9)
		one := closes(t, tookAll(t, p.fresh(), u[:2]...), 3)
		s, _ := votes(t, tookAll(t, one, u[2:5]...), 7)
		for _, x := range []impl.Letter{toShard(s, 3, 2, 6), toShard(s, 3, 2, 8), toShard(s, 3, 1, 7), toShard(s, 3, 3, 7), toShard(s, 3, 1, 3)} {
			hearsNothing(t, "an abort of another one", s, x)
		}
		next := aborts(t, s)
		if next.Epoch != 1 || len(impl.WaitsOf(next)) != 3 {
			t.Errorf("an abort leaves %d epochs, %d waits", next.Epoch, len(impl.WaitsOf(next)))
		}
		hearsNothing(t, "an abort that comes twice", next, toShard(s, 3, 2, 7))
		hearsNothing(t, "a commit of what is ready no more", next, toShard(s, 4, 2, 7))
	}
}

func TestHearServerCommits(t *testing.T) {
	for _, p := range shardPlaces() {
		u := p.changes(1, 20)
		s, vote := votes(t, tookAll(t, p.fresh(), u[:4]...), 7)
		s = tookAll(t, s, u[4:6]...)
		for _, x := range []impl.Letter{toShard(s, 4, 1, 6), toShard(s, 4, 1, 8), toShard(s, 4, 2, 7), toShard(s, 4, 3, 7), toShard(s, 4, 4, 7)} {
			hearsNothing(t, "a commit of what is not ready", s, x)
		}
		next, told := hears(t, "a commit", s, toShard(s, 4, 1, 7))
		done := impl.Letter{Kind: impl.LtDone, From: p.at + 1, Epoch: 1, Try: 7}
		if len(told) != 1 || told[0] != done {
			t.Errorf("a commit is answered by %x", told)
		}
		sameLeaves(t, "the next view", next.Views[1], true, applyAllByWords(nil, u[:4]), true)
		isHash(t, "the next view", impl.ShardRoot(next.Views[1], p.k, p.at, 16), vote.Root)
		again, told := hears(t, "a commit that comes twice", next, toShard(s, 4, 1, 7))
		if len(told) != 1 || told[0] != done || !sameServer(again, next) {
			t.Errorf("a commit that comes twice is answered by %x", told)
		}
		for try := 3; try < 6; try++ {
			next = closes(t, tookAll(t, next, u[3*try:3*try+2]...), try)
		}
		for epoch := 1; epoch <= 4; epoch++ {
			for _, try := range []int{1, 7, 1000} {
				again, told := hears(t, "closed long since", next, toShard(s, 4, epoch, try))
				if len(told) != 1 || told[0] != (impl.Letter{Kind: impl.LtDone, From: p.at + 1, Epoch: epoch, Try: try}) || !sameServer(again, next) {
					t.Errorf("a commit of the epoch %d, closed long since, is answered by %x", epoch, told)
				}
			}
			hearsNothing(t, "no epoch behind the last one", next, toShard(s, 1, epoch, 1000))
		}
	}
}

// A server that was never ready, or is so no more, closes nothing.
func TestHearServerCommitsNothingThatIsNotReady(t *testing.T) {
	for _, p := range shardPlaces() {
		for _, s := range []impl.Server{p.fresh(), tookAll(t, p.fresh(), p.changes(1, 3)...)} {
			for epoch := 1; epoch <= 4; epoch++ {
				hearsNothing(t, "nothing is ready", s, toShard(s, 4, epoch, 1))
				hearsNothing(t, "nothing is ready", s, toShard(s, 3, epoch, 1))
			}
		}
	}
}

func TestLookServer(t *testing.T) {
	for _, p := range shardPlaces() {
		names := slices.Concat(p.names(14), p.otherNames(), wrongLeafNames(), []string{"ann", "bob", "joe@x.org"})
		for what, s := range serversOf(t, p) {
			for _, epoch := range []int{-1, 0, 1, 2, 3, 4, 5, 256 + 1, 1<<32 + 1, math.MaxInt, math.MinInt} {
				for _, name := range names {
					looks(t, what, s, epoch, name)
				}
			}
		}
	}
}

// looks holds what is there against RootOf of the view, from which a shard's list is reached by the roots of the others, who have none of it.
func looks(t *testing.T, what string, s impl.Server, epoch int, name string) {
	t.Helper()
	was := serverCopy(s)
	proof, ok := impl.LookServer(s, epoch, name)
	isServer(t, what+": the server behind LookServer", s, was)
	want := s.Up && epoch >= 1 && epoch <= s.Epoch && wordByWords(name, inNameByWords) && shardByWords(name, s.K) == s.At
	if ok != want {
		t.Fatalf("%s: LookServer in %d of %.20q: %v", what, epoch, name, ok)
	}
	if !ok {
		if !sameProof(proof, impl.Proof{}) {
			t.Fatalf("%s: LookServer in %d of %.20q is false with %v", what, epoch, name, proof)
		}
		return
	}
	view, rows := s.Views[epoch], rowsByWords(s.Views[epoch], 16)
	if !impl.ProofOk(name, proof, 16) || len(proof.Sides) != 8-s.K || !slices.Equal(proof.Bucket, bucketByWords(view, indexByWords(name))) {
		t.Fatalf("%s: LookServer in %d of %.20q: %v", what, epoch, name, proof)
	}
	tops := sidesByWords(rows, indexByWords(name), 0)[8-s.K:]
	isHash(t, what, impl.FoldUp(proofHashByWords(name, proof, 16), indexByWords(name), s.K, tops, 16), impl.RootOf(view, 16))
	isHash(t, what, proofHashByWords(name, proof, 16), rows[s.K][s.At])
	value, there := impl.LeafGet(view, name)
	if got, ok := impl.ProofSays(name, proof); got != value || ok != there {
		t.Fatalf("%s: LookServer in %d of %q says %q, %v; the view %q, %v", what, epoch, name, got, ok, value, there)
	}
}

func TestLookServerOfServersThatAreNotAsTheyShouldBe(t *testing.T) {
	s := closes(t, tookAll(t, (shardPlace{0, 0}).fresh(), changeOf(1, "ann", "k1")), 1)
	for what, change := range map[string]func(s *impl.Server){
		"not up":                func(s *impl.Server) { s.Up = false },
		"no epoch":              func(s *impl.Server) { s.Epoch = 0 },
		"no such view":          func(s *impl.Server) { s.Views = s.Views[:1] },
		"no view at all":        func(s *impl.Server) { s.Views = nil },
		"a K that is none":      func(s *impl.Server) { s.K = 3 },
		"a K below 0":           func(s *impl.Server) { s.K = -1 },
		"another shard":         func(s *impl.Server) { s.At = 1 },
		"a view that isn't one": func(s *impl.Server) { s.Views[1] = leavesOf("ann", "k1", "ann", "k1") },
	} {
		other := serverCopy(s)
		change(&other)
		if proof, ok := impl.LookServer(other, 1, "ann"); ok || !sameProof(proof, impl.Proof{}) {
			t.Errorf("%s: LookServer is true", what)
		}
	}
	other := serverCopy(s)
	other.Epoch = math.MaxInt
	for _, epoch := range []int{2, 3, math.MaxInt} {
		if _, ok := impl.LookServer(other, epoch, "ann"); ok {
			t.Errorf("LookServer is true in the epoch %d, of which there is no view", epoch)
		}
	}
	looks(t, "as it should be", s, 1, "ann")
}

// recordsSoFar are of the shard 0 of K 0: three changes, an epoch closed with two of them, and a Ready of the next.
func recordsSoFar() []string {
	records := takenRecords(changeOf(1, "ann", "k1"), changeOf(2, "bob", "k2"), changeOf(3, "ann", ""))
	return append(records, readyRecord(1, 7, 2), committedRecord(1), readyRecord(2, 8, 3))
}

// passesOver wants nothing to come of a record behind others, and what comes behind it to be done.
func passesOver(t *testing.T, what string, ahead []string, record string) {
	t.Helper()
	without := makes(t, what, 0, 0, shardDisk(ahead...))
	with := makes(t, what, 0, 0, shardDisk(append(slices.Clone(ahead), record)...))
	if !sameState(with, without) {
		t.Errorf("%s: a record %x makes %s; without it there is %s", what, record, shown(with), shown(without))
	}
	behind := takenRecord(changeOf(98, "zoe", "z"))
	both := makes(t, what, 0, 0, shardDisk(append(slices.Clone(ahead), record, behind)...))
	if u, there := changeOfId(both.All, 98); !there || u.Name != "zoe" {
		t.Errorf("%s: what comes behind a record %x is not done", what, record)
	}
}

func TestServerNewOfRecords(t *testing.T) {
	u := []impl.Change{changeOf(1, "ann", "k1"), changeOf(2, "bob", "k2"), changeOf(3, "ann", "")}
	one, two := leavesOf("ann", "k1", "bob", "k2"), leavesOf("bob", "k2")
	records := append(recordsSoFar(), abortedRecord(2, 8), readyRecord(2, 1, 2), readyRecord(2, 1000, 3), committedRecord(2))
	for i, want := range []impl.Server{
		{All: u[:1]},
		{All: u[:2]},
		{All: u},
		{All: u, Ready: impl.Ready{Epoch: 1, Try: 7, Take: 2}},
		{All: u, Epoch: 1, Taken: []int{2}, Views: [][]impl.Leaf{one}},
		{All: u, Epoch: 1, Taken: []int{2}, Views: [][]impl.Leaf{one}, Ready: impl.Ready{Epoch: 2, Try: 8, Take: 3}},
		{All: u, Epoch: 1, Taken: []int{2}, Views: [][]impl.Leaf{one}},
		{All: u, Epoch: 1, Taken: []int{2}, Views: [][]impl.Leaf{one}, Ready: impl.Ready{Epoch: 2, Try: 1, Take: 2}},
		{All: u, Epoch: 1, Taken: []int{2}, Views: [][]impl.Leaf{one}, Ready: impl.Ready{Epoch: 2, Try: 1000, Take: 3}},
		{All: u, Epoch: 2, Taken: []int{2, 3}, Views: [][]impl.Leaf{one, two}},
	} {
		want.Up, want.Disk = true, shardDisk(records[:i+1]...)
		want.Taken, want.Views = append([]int{0}, want.Taken...), append([][]impl.Leaf{nil}, want.Views...)
		isServer(t, "record by record", makes(t, "record by record", 0, 0, want.Disk), want)
	}
}

func TestServerNewPassesOverChanges(t *testing.T) {
	for _, ahead := range [][]string{nil, recordsSoFar()} {
		for _, u := range wrongChanges() {
			if u.Id >= 0 && u.Id < 1000 && len(u.Name) < 1000 && len(u.Value) < 1000 {
				passesOver(t, "a change that is not right", ahead, takenRecord(u))
			}
		}
	}
	for _, u := range []impl.Change{changeOf(1, "ann", "k1"), changeOf(1, "ann", "k2"), changeOf(2, "zoe", "v"), changeOf(3, "bob", ""), changeOf(3, "ann", "")} {
		passesOver(t, "a change whose Id is there", recordsSoFar(), takenRecord(u))
	}
	for _, p := range shardPlaces() {
		for _, name := range p.otherNames() {
			s := makes(t, "a change of another shard", p.at, p.k, shardDisk(takenRecord(changeOf(1, name, "v"))))
			if len(s.All) != 0 {
				t.Errorf("%v takes %q in", p, name)
			}
		}
		u := p.changes(1, 5)
		mixed := []string{takenRecord(u[0])}
		for i, name := range p.otherNames() {
			mixed = append(mixed, takenRecord(changeOf(2, name, "other")), takenRecord(changeOf(50+i, name, "")))
		}
		s := makes(t, "some of other shards", p.at, p.k, shardDisk(append(mixed, takenRecords(u[1:]...)...)...))
		if !slices.Equal(s.All, u) {
			t.Errorf("%v has %v", p, s.All)
		}
	}
	// How many wait is asked of what comes in alone.
	many := shardPlace{0, 0}.changes(1, 99)
	if s := makes(t, "many waits", 0, 0, shardDisk(takenRecords(many...)...)); len(impl.WaitsOf(s)) != 99 {
		t.Errorf("%d of 99 changes wait", len(impl.WaitsOf(s)))
	}
}

func TestServerNewPassesOverReadys(t *testing.T) {
	for epoch := range 7 {
		for _, try := range []int{0, 1, 7, 8, 9, 1000, 1001, 1024, 16384 + 9} {
			for take := range 6 {
				record := readyRecord(epoch, try, take)
				for _, c := range []struct {
					what             string
					ahead            []string
					epoch, try, take int
				}{
					{"nothing", nil, 1, 1, 0},
					{"changes", recordsSoFar()[:3], 1, 1, 0},
					{"a Ready", recordsSoFar()[:4], 1, 8, 0},
					{"an epoch", recordsSoFar()[:5], 2, 1, 2},
					{"an epoch and a Ready", recordsSoFar(), 2, 9, 2},
				} {
					all := min(len(c.ahead), 3)
					if epoch != c.epoch || try < c.try || try > 1000 || take < c.take || take > all {
						passesOver(t, "a Ready that does not fit behind "+c.what, c.ahead, record)
						continue
					}
					s := makes(t, c.what, 0, 0, shardDisk(append(slices.Clone(c.ahead), record)...))
					if s.Ready != (impl.Ready{Epoch: epoch, Try: try, Take: take}) {
						t.Errorf("behind %s %x makes %v ready", c.what, record, s.Ready)
					}
				}
			}
		}
	}
	four := slices.Clone(recordsSoFar()[:3])
	for epoch := 1; epoch <= 4; epoch++ {
		four = append(four, readyRecord(epoch, 1, 3), committedRecord(epoch))
	}
	if s := makes(t, "MaxEpochs", 0, 0, shardDisk(four...)); s.Epoch != impl.MaxEpochs {
		t.Errorf("%d epochs are closed", s.Epoch)
	}
	passesOver(t, "a Ready past MaxEpochs", four, readyRecord(5, 1, 3))
	passesOver(t, "a commit past MaxEpochs", append(four, readyRecord(5, 1, 3)), committedRecord(5))
}

func TestServerNewPassesOverCommitsAndAborts(t *testing.T) {
	for epoch := range 7 {
		for count, ready := range map[int]impl.Ready{0: {}, 3: {}, 4: {Epoch: 1, Try: 7}, 5: {}, 6: {Epoch: 2, Try: 8}} {
			ahead := recordsSoFar()[:count]
			if ready.Epoch == 0 || epoch != ready.Epoch {
				passesOver(t, "a commit that is not Ready's", ahead, committedRecord(epoch))
			} else if s := makes(t, "a commit", 0, 0, shardDisk(append(slices.Clone(ahead), committedRecord(epoch))...)); s.Epoch != epoch || s.Ready.Try != 0 {
				t.Errorf("a commit leaves %d epochs, %v ready", s.Epoch, s.Ready)
			}
			for _, try := range []int{0, 1, 6, 7, 8, 9, 1000, 1001} {
				if epoch != ready.Epoch || try != ready.Try {
					passesOver(t, "an abort that is not Ready's", ahead, abortedRecord(epoch, try))
				} else if s := makes(t, "an abort", 0, 0, shardDisk(append(slices.Clone(ahead), abortedRecord(epoch, try))...)); s.Ready != (impl.Ready{}) {
					t.Errorf("an abort leaves %v ready", s.Ready)
				}
			}
		}
	}
}

func TestServerNewPassesOverRecordsOfOtherForms(t *testing.T) {
	for b := range 256 {
		passesOver(t, "a first byte alone", recordsSoFar(), string([]byte{byte(b)}))
	}
	for what, record := range map[string]string{
		"a change": takenRecord(changeOf(4, "cat", "k4")),
		"a Ready":  readyRecord(2, 200, 3),
		"a commit": committedRecord(2),
		"an abort": abortedRecord(2, 8),
	} {
		for b := range 256 {
			if first := string([]byte{byte(b)}); b == 0 || b > 4 {
				passesOver(t, what+" with another first byte", recordsSoFar(), first+record[1:])
			} else {
				makes(t, what, 0, 0, shardDisk(append(recordsSoFar(), first+record[1:])...))
			}
		}
		for cut := 1; cut < len(record); cut++ {
			passesOver(t, what+" cut", recordsSoFar(), record[:cut])
		}
		for _, more := range []string{"\x00", "\x01", "\x02", "\x80", "a", "\x00\x00\x00", record} {
			passesOver(t, what+" and more", recordsSoFar(), record+more)
		}
	}
	for what, numbers := range map[string][]int{"\x02": {2, 200, 3}, "\x03": {2}, "\x04": {2, 8}} {
		for at := range numbers {
			ahead, behind := what, ""
			for i, n := range numbers {
				if i < at {
					ahead += lengthByWords(n)
				} else if i > at {
					behind += lengthByWords(n)
				}
			}
			for _, longer := range longerForms(lengthByWords(numbers[at])) {
				passesOver(t, "a longer form of a number", recordsSoFar(), ahead+longer+behind)
			}
			for _, other := range []string{"\x80\x94\xeb\xdc\x03", "\x81\x94\xeb\xdc\x03", "\xff\xff\xff\xff\xff\xff\xff\xff\xff\x01"} {
				passesOver(t, "a number past all", recordsSoFar(), ahead+other+behind)
			}
		}
	}
	for _, longer := range longerForms("\x04") {
		passesOver(t, "a longer form of an Id", recordsSoFar(), "\x01"+longer+"\x03cat\x02k4")
	}
}

// Drawn records, of which many do not fit: what is made of them is what is made of those that do.
func TestServerNewOfDrawnRecords(t *testing.T) {
	state := uint64(180)
	closed, ready := 0, 0
	for range 1500 {
		p := shardPlaces()[drawn(&state, 7)]
		var records []string
		for range drawn(&state, 60) {
			records = append(records, drawnRecord(&state, p))
		}
		s := makes(t, "drawn records", p.at, p.k, shardDisk(records...))
		isServerOk(t, "drawn records", s, true)
		closed += s.Epoch
		if s.Ready.Try > 0 {
			ready++
		}
	}
	if closed < 400 || ready < 300 {
		t.Errorf("of drawn records %d epochs are closed, %d are ready", closed, ready)
	}
}

func drawnRecord(state *uint64, p shardPlace) string {
	epoch, try := 1+drawn(state, 2), 1+drawn(state, 4)
	if drawn(state, 4) == 0 {
		epoch, try = drawn(state, 7), drawn(state, 1100)
	}
	records := []string{
		takenRecord(changeOf(1+drawn(state, 30), p.names(20)[drawn(state, 20)], "v"+impl.Decimal(drawn(state, 5)))),
		takenRecord(changeOf(1+drawn(state, 30), p.names(20)[drawn(state, 20)], "")),
		takenRecord(changeOf(1+drawn(state, 30), "n"+impl.Decimal(10+drawn(state, 90)), "v")),
		readyRecord(epoch, try, drawn(state, 14)),
		committedRecord(epoch),
		abortedRecord(epoch, try),
	}
	record := records[drawn(state, len(records))]
	if drawn(state, 12) == 0 {
		record = turned(record, drawn(state, len(record)), byte(1+drawn(state, 255)))
	}
	return record
}

// Of a torn file the records ahead of the tear are done, and no other.
func TestServerNewOfTornFiles(t *testing.T) {
	records := recordsSoFar()
	text := framesByWords(records)
	for cut := range len(text) + 1 {
		s := makes(t, "cut", 0, 0, diskOf(keptFile("shard", text[:cut])))
		whole, _ := unframeByWords(text[:cut])
		if !sameState(s, impl.ServerNew(0, 0, shardDisk(whole...))) {
			t.Errorf("of %d bytes, with %d whole records, there is %s", cut, len(whole), shown(s))
		}
	}
	for at := range records {
		begin := len(framesByWords(records[:at]))
		for place := range len(frameByWords(records[at])) {
			s := makes(t, "turned", 0, 0, diskOf(keptFile("shard", turned(text, begin+place, 1))))
			if !sameState(s, impl.ServerNew(0, 0, shardDisk(records[:at]...))) {
				t.Errorf("with a byte of the record %d turned there is %s", at, shown(s))
			}
		}
	}
	for what, piece := range brokenPieces() {
		s := makes(t, what, 0, 0, diskOf(keptFile("shard", text+piece+frameByWords(takenRecord(changeOf(9, "zoe", "z"))))))
		if !sameState(s, impl.ServerNew(0, 0, shardDisk(records...))) {
			t.Errorf("%s: %s", what, shown(s))
		}
	}
}

func TestServerNewOfOtherDisks(t *testing.T) {
	records := recordsSoFar()
	log := keptLog("shard", records...)
	whole := makes(t, "the file alone", 0, 0, diskOf(log))
	for _, d := range []impl.Disk{diskOf(keptLog("a", "x"), log, file("zz", "12", 1)), diskOf(file("shard", log.Text, 0)), diskOf(keptLog("new", "x"), log), diskOf(append(filesFrom(29).Files, log)...)} {
		if s := makes(t, "a right disk", 0, 0, d); !sameState(s, whole) {
			t.Errorf("with other files there is %s", shown(s))
		}
	}
	wrong := append(wrongDisks(), diskOf(log, log), diskOf(file("shard", log.Text, -1)), diskOf(file("shard", log.Text, len(log.Text)+1)), diskOf(log, keptFile("a", "")), diskOf(append(filesFrom(30).Files, log)...), diskOf(keptFile("shard", log.Text+turning(20001-len(log.Text)))))
	others := []impl.Disk{diskOf(), diskOf(keptFile("shard", "")), diskOf(keptFile("Shard", log.Text)), diskOf(keptFile("shar", log.Text)), diskOf(keptFile("shards", log.Text)), diskOf(keptFile("coord", log.Text)), diskOf(keptFile("new", log.Text))}
	for _, d := range append(wrong, others...) {
		if s := makes(t, "no file that is right", 0, 0, d); s.Epoch != 0 || len(s.All) != 0 || s.Ready.Try != 0 || len(s.Views) != 1 {
			t.Errorf("of a disk without a right file there is %s", shown(s))
		}
	}
}

// What is not kept may be lost: a shard is then as the records that are left tell.
func TestFallServerOfWhatIsNotKept(t *testing.T) {
	text := framesByWords(recordsSoFar())
	for _, ahead := range [][]impl.File{nil, {file("a", "12345", 2)}, {keptFile("a", ""), file("b", text, 7)}} {
		for _, kept := range []int{0, 1, 13, len(text) / 2, len(text) - 1, len(text)} {
			d := diskOf(append(slices.Clone(ahead), file("shard", text, kept), file("zz", "zz", 0))...)
			s := makes(t, "not kept", 0, 0, d)
			for _, left := range append(powerLefts(len(d.Files), len(ahead), len(text)), someLefts()...) {
				fallen := falls(t, "not kept", s, left)
				isServerOk(t, "not kept", fallen, true)
				isServerOk(t, "not kept", rises(t, "not kept", fallen), true)
			}
		}
	}
}

// With a change written down behind it, all that was not kept is.
func TestFallServerBehindAWrite(t *testing.T) {
	s := makes(t, "not kept", 0, 0, diskOf(file("shard", framesByWords(recordsSoFar()), 0)))
	s = tookAll(t, s, changeOf(9, "zoe", "z"))
	comesUpAsItWas(t, fallsAsItWas(t, s, nil))
	next, _ := hears(t, "an abort", makes(t, "not kept", 0, 0, diskOf(file("shard", framesByWords(recordsSoFar()), 0))), toShard(s, 3, 2, 8))
	comesUpAsItWas(t, fallsAsItWas(t, next, []int{-5}))
}

func TestFallServerOfWrongDisks(t *testing.T) {
	for _, d := range wrongDisks() {
		for _, left := range someLefts() {
			s := makes(t, "a wrong disk", 0, 0, d)
			fallen := falls(t, "a wrong disk", s, left)
			if !sameDisk(fallen.Disk, d) || fallen.Up {
				t.Error("a wrong disk is not as it was")
			}
			rises(t, "a wrong disk", fallen)
		}
	}
	s := makes(t, "a right disk", 0, 0, shardDisk(recordsSoFar()...))
	s.Disk = wrongDisks()[1]
	if fallen := falls(t, "a wrong disk in its place", s, nil); len(fallen.All) != 0 || fallen.Epoch != 0 {
		t.Errorf("with a wrong disk there is %s", shown(fallen))
	}
}

// What a server has but its place and its disk is gone when it falls: it is as its disk tells.
func TestFallAndRiseGoByTheDisk(t *testing.T) {
	for _, p := range shardPlaces() {
		for what, s := range serversOf(t, p) {
			for _, up := range []bool{true, false} {
				other := impl.Server{At: s.At, K: s.K, Up: up, Disk: s.Disk, Epoch: 9, Views: [][]impl.Leaf{leavesOf("x", "y")}, Taken: []int{5}, Ready: impl.Ready{Epoch: 1, Try: 2, Take: 3}}
				fallen := falls(t, what, other, nil)
				if !sameState(fallen, s) {
					t.Errorf("%s: it falls as %s", what, shown(fallen))
				}
				risen := rises(t, what, other)
				if up && !sameState(risen, other) || !up && !sameState(risen, s) {
					t.Errorf("%s: up %v, it rises as %s", what, up, shown(risen))
				}
			}
			if s.Up {
				isServer(t, what+" does not rise", rises(t, what, s), s)
			}
		}
	}
	for _, k := range wrongSplits() {
		for _, at := range []int{-1, 0, 3, math.MaxInt} {
			s := makes(t, "no shard", at, k, shardDisk(recordsSoFar()...))
			rises(t, "no shard", falls(t, "no shard", s, []int{3}))
		}
	}
}

func serverOkByWords(s impl.Server) bool {
	places := map[int]int{0: 1, 1: 2, 2: 4}
	return s.At >= 0 && s.At < places[s.K] && sameState(s, serverByWords(s.At, s.K, s.Disk))
}

// otherServers have one field another than this one, each; what must be wrong then is told by a name that begins with an exclamation mark.
func otherServers(s impl.Server) map[string]impl.Server {
	list := map[string]impl.Server{}
	add := func(what string, change func(o *impl.Server)) {
		other := serverCopy(s)
		change(&other)
		list[what] = other
	}
	for _, n := range []int{-1, 0, 1, 2, 3, 4, 5, 256, 256 + 1, 1 << 32, math.MaxInt, math.MinInt} {
		add("At "+impl.Decimal(n), func(o *impl.Server) { o.At = n })
		add("K "+impl.Decimal(n), func(o *impl.Server) { o.K = n })
		if n != s.Epoch {
			add("!Epoch "+impl.Decimal(n), func(o *impl.Server) { o.Epoch = n })
		}
	}
	add("up or not", func(o *impl.Server) { o.Up = !o.Up })
	add("!no views", func(o *impl.Server) { o.Views = nil })
	add("!a view more", func(o *impl.Server) { o.Views = append(o.Views, nil) })
	add("!a view less", func(o *impl.Server) { o.Views = o.Views[1:] })
	add("!nothing taken", func(o *impl.Server) { o.Taken = nil })
	add("!one taken more", func(o *impl.Server) { o.Taken = append(o.Taken, o.Taken[len(o.Taken)-1]) })
	add("!a change more", func(o *impl.Server) { o.All = append(o.All, changeOf(99, "ann", "v")) })
	for at := range s.Views {
		add("!another view "+impl.Decimal(at), func(o *impl.Server) { o.Views[at] = append(o.Views[at], impl.Leaf{Name: "zzz", Value: "v"}) })
		add("!another taken "+impl.Decimal(at), func(o *impl.Server) { o.Taken[at]++ })
		for i := range s.Views[at] {
			add("!another value "+impl.Decimal(i), func(o *impl.Server) { o.Views[at][i].Value += "x" })
		}
	}
	for at := range s.All {
		add("!another Id "+impl.Decimal(at), func(o *impl.Server) { o.All[at].Id++ })
		add("!another change "+impl.Decimal(at), func(o *impl.Server) { o.All[at].Value += "x" })
		add("!a change less "+impl.Decimal(at), func(o *impl.Server) { o.All = slices.Delete(o.All, at, at+1) })
	}
	add("!another epoch ready", func(o *impl.Server) { o.Ready.Epoch++ })
	add("!another try ready", func(o *impl.Server) { o.Ready.Try-- })
	add("!another take ready", func(o *impl.Server) { o.Ready.Take++ })
	add("another file", func(o *impl.Server) { o.Disk = diskOf(append(slices.Clone(o.Disk.Files), keptFile("zz", "x"))...) })
	add("a record more", func(o *impl.Server) {
		o.Disk, _ = actsByWords(o.Disk, []impl.Act{addAct("shard", frameByWords("\x09"))})
	})
	if len(s.All) > 0 {
		add("!no disk", func(o *impl.Server) { o.Disk = impl.Disk{} })
		add("!another disk", func(o *impl.Server) { o.Disk = shardDisk(takenRecord(changeOf(98, s.All[0].Name, "zz"))) })
		add("!a wrong disk", func(o *impl.Server) { o.Disk.Files[0].Kept = -1 })
		add("!a record less", func(o *impl.Server) { o.Disk = shardDisk(impl.LogTexts(o.Disk, "shard")[1:]...) })
	}
	return list
}

func TestServerOkOfOtherServers(t *testing.T) {
	for _, p := range shardPlaces() {
		for what, s := range serversOf(t, p) {
			isServerOk(t, what, s, true)
			for how, other := range otherServers(s) {
				was := serverCopy(other)
				want := serverOkByWords(other)
				if want && how[0] == '!' {
					t.Fatalf("%s, %s: it should be wrong", what, how)
				}
				isServerOk(t, what+", "+how, other, want)
				isServer(t, what+": the server behind ServerOk", other, was)
			}
			other := serverCopy(s)
			other.Up = !other.Up
			isServerOk(t, what+", up or not", other, true)
		}
	}
}

func TestServerOkOfPlaces(t *testing.T) {
	for _, k := range append(rightSplits(), wrongSplits()...) {
		for _, at := range []int{-1, 0, 1, 2, 3, 4, 5, 7, 8, 256, 1 << 32, math.MaxInt, math.MinInt} {
			want := at >= 0 && (k == 0 && at < 1 || k == 1 && at < 2 || k == 2 && at < 4)
			isServerOk(t, "a place", impl.ServerNew(at, k, impl.Disk{}), want)
			isServerOk(t, "a place", impl.FallServer(impl.ServerNew(at, k, shardDisk(recordsSoFar()...)), nil), want)
		}
	}
	isServerOk(t, "nothing", impl.Server{}, false)
	isServerOk(t, "nothing but what is always there", impl.Server{Views: [][]impl.Leaf{nil}, Taken: []int{0}}, true)
	for _, d := range wrongDisks() {
		isServerOk(t, "nothing, of a wrong disk", impl.ServerNew(0, 0, d), true)
	}
}

// Servers that none of these functions made: every function answers, and none panics.
func TestServersOfAnyKindAreAnswered(t *testing.T) {
	u := shardPlace{0, 0}.changes(1, 5)
	full := impl.Server{Up: true, Disk: shardDisk(recordsSoFar()...), Epoch: 1, Views: [][]impl.Leaf{nil, leavesFrom(3)}, Taken: []int{0, 2}, All: u, Ready: impl.Ready{Epoch: 2, Try: 5, Take: 3}}
	servers := []impl.Server{{}, {Up: true}, full}
	for _, other := range otherServers(full) {
		servers = append(servers, other)
	}
	for _, n := range []int{-1, 5, 6, math.MaxInt, math.MinInt} {
		for _, up := range []bool{true, false} {
			s := serverCopy(full)
			s.Up, s.Ready.Take, s.Taken = up, n, []int{n}
			servers = append(servers, s, impl.Server{At: n, K: n, Up: up, Epoch: n, Ready: impl.Ready{Epoch: n, Try: n, Take: n}})
		}
	}
	for _, s := range servers {
		was := serverCopy(s)
		for _, kind := range letterKinds() {
			for epoch := 1; epoch <= 4; epoch++ {
				for node := 1; node <= 4; node++ {
					next, told := impl.HearServer(s, letterOf(kind, node, epoch, 5))
					if !s.Up && (len(told) != 0 || !sameServer(next, s)) {
						t.Errorf("%s is not up, and answers", shown(s))
					}
				}
			}
		}
		for _, v := range append(u, changeOf(50, "ann", "k")) {
			if next, code := impl.TakeChange(s, v); code == 1 && !sameServer(next, s) {
				t.Errorf("%s is not as it is behind a change that it refuses", shown(s))
			}
		}
		for _, epoch := range []int{-1, 0, 1, 2, math.MaxInt} {
			impl.LookServer(s, epoch, "n10")
		}
		impl.WaitsOf(s)
		impl.ReadyLeaves(s)
		falls(t, "any server", s, []int{1})
		rises(t, "any server", s)
		isServerOk(t, "any server", s, serverOkByWords(s))
		isServer(t, "any server behind all that", s, was)
	}
}

// ownServer has all its texts in memory of its own.
func ownServer(s impl.Server) impl.Server {
	s = serverCopy(s)
	for i, f := range s.Disk.Files {
		s.Disk.Files[i].Name, s.Disk.Files[i].Text = strings.Clone(f.Name), strings.Clone(f.Text)
	}
	for i, u := range s.All {
		s.All[i] = ownChange(u)
	}
	for _, view := range s.Views {
		for i, l := range view {
			view[i] = impl.Leaf{Name: strings.Clone(l.Name), Value: strings.Clone(l.Value)}
		}
	}
	return s
}

func textsOfServer(s impl.Server) []string {
	return slices.Concat(textsOfDisk(s.Disk), textsOfLeaves(s.Views...), textsOfChanges(s.All...))
}

// wipe writes into every list of a server, and the spare room behind it.
func wipe(s impl.Server) {
	for _, view := range s.Views[:cap(s.Views)] {
		clear(view[:cap(view)])
	}
	clear(s.Views[:cap(s.Views)])
	clear(s.Taken[:cap(s.Taken)])
	clear(s.All[:cap(s.All)])
	clear(s.Disk.Files[:cap(s.Disk.Files)])
}

// serverAnswers are servers that every function makes of this one, which is ready and up; all of them are new.
func serverAnswers(s impl.Server, u impl.Change) []impl.Server {
	down := s
	down.Up = false
	taken, _ := impl.TakeChange(s, u)
	refused, _ := impl.TakeChange(s, changeOf(0, u.Name, u.Value))
	twice, _ := impl.TakeChange(s, s.All[0])
	list := []impl.Server{taken, refused, twice, impl.FallServer(s, nil), impl.FallServer(down, []int{9999}), impl.RiseServer(s), impl.RiseServer(down), impl.ServerNew(s.At, s.K, s.Disk)}
	for _, x := range []impl.Letter{toShard(s, 1, s.Ready.Epoch, s.Ready.Try), toShard(s, 1, s.Ready.Epoch, s.Ready.Try+1), toShard(s, 3, s.Ready.Epoch, s.Ready.Try), toShard(s, 4, s.Ready.Epoch, s.Ready.Try), toShard(s, 4, 1, 1), toShard(s, 2, 1, 1)} {
		next, _ := impl.HearServer(s, x)
		list = append(list, next)
	}
	return list
}

func TestServersAnswerNewMemory(t *testing.T) {
	p := shardPlace{1, 1}
	s := ownServer(serversOf(t, p)["one epoch, ready"])
	was := ownServer(s)
	u := ownChange(changeOf(88, p.names(20)[19], "value"))
	given := append(textsOfServer(s), textsOfChanges(u)...)
	answers, again := serverAnswers(s, u), serverAnswers(s, u)
	for i, answer := range answers {
		isServer(t, "again", again[i], answer)
		noneShares(t, "an answer and what was handed in", textsOfServer(answer), given)
		noneShares(t, "an answer's views and its changes", textsOfLeaves(answer.Views...), textsOfChanges(answer.All...))
		noneShares(t, "an answer's disk and what else it has", textsOfDisk(answer.Disk), append(textsOfLeaves(answer.Views...), textsOfChanges(answer.All...)...))
	}
	for i, answer := range answers {
		keep := serverCopy(again[i])
		wipe(answer)
		isServer(t, "an answer, when another one is written into", again[i], keep)
	}
	isServer(t, "what was handed in, when the answers are written into", s, was)
	waits, leaves := impl.WaitsOf(s), impl.ReadyLeaves(s)
	proof, _ := impl.LookServer(s, 1, s.Views[1][0].Name)
	noneShares(t, "waits and their server", textsOfChanges(waits...), given)
	noneShares(t, "leaves that are ready and their server", textsOfLeaves(leaves), given)
	noneShares(t, "a look and its server", textsOfProof(proof), given)
	clear(waits[:cap(waits)])
	clear(leaves[:cap(leaves)])
	clear(proof.Bucket[:cap(proof.Bucket)])
	clear(proof.Sides[:cap(proof.Sides)])
	isServer(t, "what was handed in, when what is told of it is written into", s, was)
}

// The views of one server are lists of their own.
func TestViewsShareNothing(t *testing.T) {
	s := serversOf(t, shardPlace{0, 0})["four epochs, with changes"]
	for i, view := range s.Views {
		for j, other := range s.Views[:i] {
			noneShares(t, "two views", textsOfLeaves(view), textsOfLeaves(other))
			keep := slices.Clone(other)
			clear(append(view[:len(view):cap(view)], leavesFrom(2)...)[:len(view)])
			sameLeaves(t, "a view, when another one is written into", s.Views[j], true, keep, true)
		}
	}
}

// Lists that are handed in may be pieces of longer ones, whose spare room is somebody else's.
func TestServersWriteIntoNoSpareRoom(t *testing.T) {
	p := shardPlace{1, 0}
	s := serversOf(t, p)["three epochs, ready"]
	files, views, taken, all := slices.Clone(s.Disk.Files), slices.Clone(s.Views), slices.Clone(s.Taken), slices.Clone(s.All)
	room := serverCopy(impl.Server{
		Disk:  diskOf(append(files, filesFrom(3).Files...)...),
		Views: append(views, leavesFrom(2), leavesFrom(3)),
		Taken: append(taken, 77, 78, 79),
		All:   append(all, p.changes(60, 9)...),
	})
	for i, view := range room.Views {
		room.Views[i] = append(view, leavesFrom(4)...)[:len(view)]
	}
	was := serverCopy(room)
	s.Disk.Files, s.Views, s.Taken, s.All = room.Disk.Files[:len(files)], room.Views[:len(views)], room.Taken[:len(taken)], room.All[:len(all)]
	leftRoom := []int{5, 6, 7, 8}
	changes := append(p.changes(90, 3), p.otherNamed()...)
	for _, u := range append(changes, s.All...) {
		wipe(first(impl.TakeChange(s, u)))
		for _, answer := range serverAnswers(s, u) {
			wipe(answer)
		}
	}
	wipe(impl.FallServer(s, leftRoom[:1]))
	clear(append(impl.WaitsOf(s), changes...))
	clear(append(impl.ReadyLeaves(s), leavesFrom(3)...))
	isServer(t, "the room behind a server", room, was)
	for _, view := range room.Views {
		if spare := view[len(view) : len(view)+4]; !slices.Equal(spare, leavesFrom(4)) {
			t.Errorf("the room behind a view is %v", spare)
		}
	}
	if !slices.Equal(leftRoom, []int{5, 6, 7, 8}) {
		t.Error("the room behind what is left was written into")
	}
}

func (p shardPlace) otherNamed() []impl.Change {
	var list []impl.Change
	for i, name := range p.otherNames() {
		list = append(list, changeOf(93+i, name, "v"))
	}
	return list
}

func first(s impl.Server, _ int) impl.Server {
	return s
}

// Every call answers from what it is given alone: again the same, whatever was taken in, lost or refused between.
func TestServersKeepNothing(t *testing.T) {
	for _, p := range shardPlaces() {
		servers := serversOf(t, p)
		u := p.changes(70, 2)
		for what, s := range servers {
			for _, other := range servers {
				takes(t, what, other, u[0])
				hears(t, what, other, toShard(other, 1, other.Epoch+1, 1000))
				falls(t, what, other, []int{3})
				takes(t, what, s, u[0])
				takes(t, what, s, u[1])
				hears(t, what, s, toShard(s, 4, s.Epoch+1, max(1, s.Ready.Try)))
				isServerOk(t, what, s, true)
			}
		}
	}
}
