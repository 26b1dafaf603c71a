package keep_test

import (
	"math"
	"math/rand"
	"testing"

	"grapevine/api"
	"grapevine/conf"
	"grapevine/disk"
	"grapevine/epoch"
	"grapevine/keep"
)

// anyEpochs are epochs that are right, mostly small ones.
func anyEpochs(r *rand.Rand) epoch.Epochs {
	top := []int{0, 3, 1000, topEpoch}[r.Intn(4)]
	current := r.Intn(top + 1)
	return epoch.Epochs{Current: current, Vote: r.Intn(current + 1), Config: r.Intn(current + 1)}
}

// anyState is a state that is right, of one of few nodes.
func anyState(r *rand.Rand) conf.State {
	s := conf.State{ID: 1 + r.Intn(3), Epochs: anyEpochs(r)}
	owners := []int{0, s.ID}
	for id := range 1 + r.Intn(most) {
		if id+1 == s.ID || r.Intn(3) == 0 {
			continue
		}
		s.Known = append(s.Known, conf.Known{ID: id + 1, Config: r.Intn(9)})
		owners = append(owners, id+1)
	}
	few, n := owners[:1+r.Intn(len(owners))], r.Intn(65)
	for slot := range n {
		if s.Table.Owner[slot] = few[r.Intn(len(few))]; s.Table.Owner[slot] != 0 {
			s.Table.Epoch[slot] = r.Intn(3)
		}
	}
	return s
}

// anyKeep are numbers of bytes that a crash keeps.
func anyKeep(r *rand.Rand) []int {
	list := make([]int, r.Intn(4))
	for i := range list {
		list[i] = []int{math.MinInt, -1, 0, 1, r.Intn(300), r.Intn(3000), math.MaxInt}[r.Intn(7)]
	}
	return list
}

// saved saves a state as the chapter words it, on a disk of its own.
func saved(d *disk.Disk, s conf.State) api.Errno {
	text, e := conf.Text(s)
	if e != api.OK {
		return api.ErrForm
	}
	if e := d.Write("next", []byte(text)); e != api.OK {
		return e
	}
	if e := d.Sync("next"); e != api.OK {
		return e
	}
	return d.Rename("next", "state")
}

// P14.3: at each call of a save, whatever a crash keeps, and whatever an earlier one left, there is the state that was saved last, or, behind the last call, the one that was being saved.
func TestCrash(t *testing.T) {
	states := []conf.State{plain(), later(), {ID: 1}, longest()}
	for _, was := range states {
		for _, now := range states {
			text, _ := conf.Text(now)
			for arm := range steps + 1 {
				for _, kept := range [][]int{nil, {math.MinInt}, {0}, {1}, {43}, {44}, {len(text) / 2}, {len(text) - 1}, {len(text)}, {math.MaxInt, math.MaxInt}} {
					for _, left := range []string{"", "self", text, text + text} {
						wantOneOf(t, was, now, arm, kept, left)
					}
				}
			}
		}
	}
}

// wantOneOf saves a state, and one more at whose call of that number the disk goes down, and holds what is loaded behind the crash.
func wantOneOf(t *testing.T, was, now conf.State, arm int, kept []int, left string) {
	t.Helper()
	d := opened(t, topRoom)
	wantSave(t, d, was, api.OK)
	if left != "" {
		put(t, d, file{"next", left, true})
	}
	d.Arm(arm)
	if arm < steps {
		wantSave(t, d, now, api.ErrDown)
		wantNoLoad(t, d, api.ErrDown)
		wantDown(t, d, kept...)
		wantLoad(t, d, was)
	} else {
		wantSave(t, d, now, api.OK)
		d.Crash(kept)
		wantLoad(t, d, now)
	}
	d.Crash(nil)
	wantSave(t, d, now, api.OK)
	d.Crash(nil)
	wantFiles(t, d, file{"state", textOf(t, now), true})
}

// textOf is a right state's text.
func textOf(t *testing.T, s conf.State) string {
	t.Helper()
	text, e := conf.Text(s)
	if e != api.OK {
		t.Fatalf("Text(%+v) = %d", s, e)
	}
	return text
}

// P14.3: where nothing was saved yet, a crash leaves no half of a state.
func TestCrashFirst(t *testing.T) {
	for arm := range steps {
		for kept := range len(plainText) + 1 {
			d := opened(t, topRoom)
			d.Arm(arm)
			wantSave(t, d, plain(), api.ErrDown)
			wantDown(t, d, kept)
			wantNoLoad(t, d, api.ErrFile)
			wantSave(t, d, later(), api.OK)
			wantLoad(t, d, later())
		}
	}
}

// run is a disk that states are saved on, another one on which the chapter's steps are taken, and what was saved last.
type run struct {
	mine, plain *disk.Disk
	last        conf.State
	is          bool
}

// both does the same to both disks.
func (u *run) both(do func(d *disk.Disk)) {
	do(u.mine)
	do(u.plain)
}

// save saves a state, right or not, on both disks, and holds what is answered.
func (u *run) save(t *testing.T, s conf.State) api.Errno {
	t.Helper()
	got, must := keep.Save(u.mine, s), saved(u.plain, s)
	if got != must {
		t.Fatalf("Save of %+v = %d, want %d", s, got, must)
	}
	if got == api.OK {
		u.last, u.is = s, true
	}
	return got
}

// want holds what both disks have, and that the state that was saved last is there.
func (u *run) want(t *testing.T) {
	t.Helper()
	if u.mine.Down() != u.plain.Down() {
		t.Fatalf("Down = %v, want %v", u.mine.Down(), u.plain.Down())
	}
	if u.mine.Down() {
		wantNoLoad(t, u.mine, api.ErrDown)
		return
	}
	wantFiles(t, u.mine, filesOf(t, u.plain)...)
	if u.is {
		wantLoad(t, u.mine, u.last)
	} else {
		wantNoLoad(t, u.mine, api.ErrFile)
	}
}

// P14.1, P14.2, P14.3: any saves, on disks that go down, crash and lack room, leave the state that was saved last.
func TestCalls(t *testing.T) {
	r := rand.New(rand.NewSource(1))
	told := map[api.Errno]int{}
	for range 200 {
		room := []int{0, 100, 1000, topRoom}[r.Intn(4)]
		u := &run{mine: opened(t, room), plain: opened(t, room)}
		for range 100 {
			switch r.Intn(12) {
			case 0, 1:
				n := r.Intn(6) - 1
				u.both(func(d *disk.Disk) { d.Arm(n) })
			case 2, 3:
				kept := anyKeep(r)
				u.both(func(d *disk.Disk) { d.Crash(kept) })
			case 4:
				room := r.Intn(2000)
				u.both(func(d *disk.Disk) { d.Room(room) })
			case 5:
				name, b := []string{"a", "next", "z"}[r.Intn(3)], make([]byte, r.Intn(200))
				u.both(func(d *disk.Disk) { d.Write(name, b) })
			case 6:
				told[u.save(t, wrongs()[r.Intn(len(wrongs()))])]++
			default:
				told[u.save(t, anyState(r))]++
			}
			u.want(t)
		}
	}
	for _, e := range []api.Errno{api.OK, api.ErrForm, api.ErrDown, api.ErrSpace} {
		if told[e] < 1000 {
			t.Errorf("%d was answered %d times only", e, told[e])
		}
	}
}

// P14.4: of any two states it is told what the chapter says.
func TestAnyCarry(t *testing.T) {
	r := rand.New(rand.NewSource(2))
	seen := map[bool]int{}
	for range 20000 {
		was, now := anyState(r), anyState(r)
		if r.Intn(2) == 0 {
			now.Epochs = was.Epochs
			place := []*int{&now.Epochs.Current, &now.Epochs.Vote, &now.Epochs.Config}[r.Intn(3)]
			*place += r.Intn(5) - 2
		}
		a, b := was.Epochs, now.Epochs
		must := now.Right() && was.ID == now.ID && a.Current <= b.Current && a.Vote <= b.Vote && a.Config <= b.Config
		seen[must]++
		if got := keep.Carry(was, now); got != must {
			t.Fatalf("Carry(%+v, %+v) = %v, want %v", was, now, got, must)
		}
	}
	if seen[true] < 1000 || seen[false] < 1000 {
		t.Errorf("states that carry on and don't: %v", seen)
	}
}
