package disk_test

import (
	"math"
	"math/rand"
	"slices"
	"strings"
	"testing"

	"grapevine/api"
	"grapevine/disk"
)

// model is a disk as the chapter words it: files one behind the other, as they came.
type model struct {
	files       []file
	room        int
	armed, down bool
	more        int // calls that are done yet, if it is armed
}

// place is where a file is, or below 0.
func (m *model) place(name string) int {
	return slices.IndexFunc(m.files, func(f file) bool { return f.name == name })
}

// named tells whether a text is a name.
func named(s string) bool {
	return s != "" && len(s) <= letters && strings.Trim(s, "abcdefghijklmnopqrstuvwxyz") == ""
}

// goes counts a call that would be answered OK, and tells whether the disk goes down at it.
func (m *model) goes() bool {
	if !m.armed {
		return false
	}
	m.more--
	m.down = m.more < 0
	return m.down
}

// take takes a file away.
func (m *model) take(name string) {
	m.files = slices.DeleteFunc(m.files, func(f file) bool { return f.name == name })
}

// write writes a file.
func (m *model) write(name, b string) api.Errno {
	all := len(b)
	for _, f := range m.files {
		if f.name != name {
			all += len(f.bytes)
		}
	}
	switch {
	case m.down:
		return api.ErrDown
	case !named(name):
		return api.ErrFile
	case all > m.room:
		return api.ErrSpace
	}
	m.take(name)
	m.files = append(m.files, file{name, b, false})
	if m.goes() {
		return api.ErrDown
	}
	return api.OK
}

// sync syncs a file.
func (m *model) sync(name string) api.Errno {
	switch {
	case m.down:
		return api.ErrDown
	case m.place(name) < 0:
		return api.ErrFile
	case m.goes():
		return api.ErrDown
	}
	m.files[m.place(name)].safe = true
	return api.OK
}

// rename renames a file.
func (m *model) rename(from, to string) api.Errno {
	switch {
	case m.down:
		return api.ErrDown
	case m.place(from) < 0, !named(to):
		return api.ErrFile
	case m.goes():
		return api.ErrDown
	case from == to:
		return api.OK
	}
	m.take(to)
	m.files[m.place(from)].name = to
	return api.OK
}

// all are the files, rising by their names.
func (m *model) all() []file {
	list := slices.Clone(m.files)
	slices.SortFunc(list, func(a, b file) int { return strings.Compare(a.name, b.name) })
	return list
}

// crash leaves what is safe, and beginnings of what isn't.
func (m *model) crash(keep []int) {
	list, at := m.all(), 0
	for i, f := range list {
		if f.safe {
			continue
		}
		n := 0
		if at < len(keep) {
			n = keep[at]
		}
		at++
		for len(list[i].bytes) > 0 && len(list[i].bytes) > n {
			list[i].bytes = list[i].bytes[:len(list[i].bytes)-1]
		}
		list[i].safe = true
	}
	m.files, m.armed, m.down = list, false, false
}

// arm arms the disk, or not.
func (m *model) arm(n int) { m.armed, m.more = n >= 0, n }

// anyName is mostly one of few names.
func anyName(r *rand.Rand) string {
	if r.Intn(15) == 0 {
		return noNames[r.Intn(len(noNames))]
	}
	return names[r.Intn(6)]
}

// anyKeep are numbers of bytes that a crash keeps.
func anyKeep(r *rand.Rand) []int {
	list := make([]int, r.Intn(5))
	for i := range list {
		list[i] = r.Intn(12) - 2
		if r.Intn(10) == 0 {
			list[i] = []int{math.MinInt, math.MaxInt, topRoom, -topRoom}[r.Intn(4)]
		}
	}
	return list
}

// anyRoom is mostly one that is scarce.
func anyRoom(r *rand.Rand) int {
	if r.Intn(4) > 0 {
		return r.Intn(40)
	}
	list := slices.Concat(rooms, noRooms)
	return list[r.Intn(len(list))]
}

// anyBytes are mostly few, and now and then more than there is room for in any disk.
func anyBytes(r *rand.Rand) string {
	if r.Intn(50) == 0 {
		return strings.Repeat("x", topRoom+r.Intn(3)-1)
	}
	b := make([]byte, r.Intn(12))
	r.Read(b)
	return string(b)
}

// step makes one call of both, and tells what each answered.
func step(r *rand.Rand, d *disk.Disk, m *model) (what string, got, must api.Errno) {
	name := anyName(r)
	switch r.Intn(20) {
	case 0:
		n := r.Intn(8) - 1
		d.Arm(n)
		m.arm(n)
		return "Arm", api.OK, api.OK
	case 1:
		room := anyRoom(r)
		d.Room(room)
		m.room = max(0, min(room, topRoom))
		return "Room", api.OK, api.OK
	case 2:
		keep := anyKeep(r)
		d.Crash(keep)
		m.crash(keep)
		return "Crash", api.OK, api.OK
	case 3, 4, 5, 6, 7:
		return "Sync", d.Sync(name), m.sync(name)
	case 8, 9, 10, 11, 12:
		to := anyName(r)
		return "Rename", d.Rename(name, to), m.rename(name, to)
	}
	b := anyBytes(r)
	return "Write", d.Write(name, []byte(b)), m.write(name, b)
}

// wantSame holds all that a disk tells against the chapter.
func wantSame(t *testing.T, d *disk.Disk, m *model) {
	t.Helper()
	if d.Down() != m.down {
		t.Fatalf("Down = %v, want %v", d.Down(), m.down)
	}
	for _, name := range append(names[:7:7], noNames[:5]...) {
		i := m.place(name)
		if got, must := d.Safe(name), i >= 0 && m.files[i].safe; got != must {
			t.Fatalf("Safe(%q) = %v, want %v", name, got, must)
		}
		if i < 0 && !m.down {
			wantNone(t, d, name)
		}
	}
	if !m.down {
		wantFiles(t, d, m.all()...)
		return
	}
	if l, e := d.Names(); len(l) != 0 || e != api.ErrDown {
		t.Fatalf("Names = %q, %d, want nothing, %d", l, e, api.ErrDown)
	}
	for _, name := range names {
		if b, e := d.Read(name); len(b) != 0 || e != api.ErrDown {
			t.Fatalf("Read(%q) = %q, %d, want nothing, %d", name, b, e, api.ErrDown)
		}
	}
}

// P12.1, P12.2, P12.3, P12.4, P12.5: any calls in any order answer what the chapter says.
func TestCalls(t *testing.T) {
	r := rand.New(rand.NewSource(1))
	told := map[api.Errno]int{}
	for range 200 {
		m := &model{room: []int{0, 5, 20, 30, topRoom}[r.Intn(5)]}
		d := opened(t, m.room)
		for range 300 {
			what, got, must := step(r, d, m)
			if got != must {
				t.Fatalf("%s = %d, want %d", what, got, must)
			}
			told[must]++
			wantSame(t, d, m)
		}
	}
	for _, e := range []api.Errno{api.OK, api.ErrDown, api.ErrFile, api.ErrSpace} {
		if told[e] < 1000 {
			t.Errorf("%d was answered %d times only", e, told[e])
		}
	}
}
