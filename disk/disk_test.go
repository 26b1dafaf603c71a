package disk_test

import (
	"bytes"
	"math"
	"slices"
	"strings"
	"testing"

	"grapevine/api"
	"grapevine/disk"
)

// The greatest room, and how many letters a name has at most, written out so that the limits themselves are held too.
const (
	topRoom = 65536
	letters = 16
)

// Texts that are names, rising, and such as are none.
var (
	names   = []string{"a", "aa", "ab", "abcdefghijklmnop", "b", "conf", "next", "state", "z", "za", "zz", "zzzzzzzzzzzzzzzz"}
	noNames = []string{
		"", " ", "A", "Z", "0", "9", "a1", "1a", "a ", " a", "a b", "a.b", "a/b", "../a", "aB", "Ab", "`", "{", "a`", "a{", "_", "-", "\x00", "a\x00", "\n", "a\n",
		"é", "aé", "ä", "ａ", "а", "ſ", "K", "\xff", "a\xff", "\x80", "\xc3", "𝒶", "ééééééé", "éééééééé",
		"abcdefghijklmnopq", "abcdefghijklmnop ", "abcdefghijklmno1", strings.Repeat("z", letters+1), strings.Repeat("a", 1000),
	}
	noRooms = []int{math.MinInt, -topRoom, -2, -1, topRoom + 1, topRoom + 2, 2 * topRoom, 1 << 32, math.MaxInt - 1, math.MaxInt}
	rooms   = []int{0, 1, 2, 100, topRoom - 1, topRoom}
)

// opened makes a disk, which must be one.
func opened(t *testing.T, room int) *disk.Disk {
	t.Helper()
	d := disk.New(room)
	if d == nil {
		t.Fatalf("New(%d) = nil", room)
	}
	return d
}

// wantWrite writes, and holds what is answered.
func wantWrite(t *testing.T, d *disk.Disk, name, b string, must api.Errno) {
	t.Helper()
	if e := d.Write(name, []byte(b)); e != must {
		t.Fatalf("Write(%q, %d bytes) = %d, want %d", name, len(b), e, must)
	}
}

// wantSync syncs, and holds what is answered.
func wantSync(t *testing.T, d *disk.Disk, name string, must api.Errno) {
	t.Helper()
	if e := d.Sync(name); e != must {
		t.Fatalf("Sync(%q) = %d, want %d", name, e, must)
	}
}

// wantRename renames, and holds what is answered.
func wantRename(t *testing.T, d *disk.Disk, from, to string, must api.Errno) {
	t.Helper()
	if e := d.Rename(from, to); e != must {
		t.Fatalf("Rename(%q, %q) = %d, want %d", from, to, e, must)
	}
}

// file is what a file must be.
type file struct {
	name, bytes string
	safe        bool
}

// wantFiles holds all files, rising by their names, of a disk that isn't down.
func wantFiles(t *testing.T, d *disk.Disk, must ...file) {
	t.Helper()
	var list []string
	for _, f := range must {
		list = append(list, f.name)
	}
	if got, e := d.Names(); !slices.Equal(got, list) || e != api.OK {
		t.Fatalf("Names = %q, %d, want %q", got, e, list)
	}
	for _, f := range must {
		if got, e := d.Read(f.name); string(got) != f.bytes || e != api.OK {
			t.Fatalf("Read(%q) = %q, %d, want %q", f.name, got, e, f.bytes)
		}
		if got := d.Safe(f.name); got != f.safe {
			t.Fatalf("Safe(%q) = %v, want %v", f.name, got, f.safe)
		}
	}
	wantUp(t, d)
}

// wantNone holds that there is no such file, on a disk that isn't down.
func wantNone(t *testing.T, d *disk.Disk, name string) {
	t.Helper()
	if got, e := d.Read(name); len(got) != 0 || e != api.ErrFile {
		t.Fatalf("Read(%q) = %q, %d, want nothing, %d", name, got, e, api.ErrFile)
	}
	if d.Safe(name) {
		t.Fatalf("Safe(%q), of no file", name)
	}
}

// wantUp holds that a disk isn't down.
func wantUp(t *testing.T, d *disk.Disk) {
	t.Helper()
	if d.Down() {
		t.Fatal("the disk is down")
	}
}

// wantDown holds that a disk is down, and that all calls that answer an error answer that.
func wantDown(t *testing.T, d *disk.Disk) {
	t.Helper()
	if !d.Down() {
		t.Fatal("the disk isn't down")
	}
	for _, name := range append([]string{"a", "b", "c"}, noNames...) {
		for _, b := range []string{"", "x", strings.Repeat("x", topRoom+1)} {
			wantWrite(t, d, name, b, api.ErrDown)
		}
		wantSync(t, d, name, api.ErrDown)
		for _, to := range []string{name, "a", "b", "c", "", "!"} {
			wantRename(t, d, name, to, api.ErrDown)
		}
		if b, e := d.Read(name); len(b) != 0 || e != api.ErrDown {
			t.Fatalf("Read(%q) = %q, %d, want nothing, %d", name, b, e, api.ErrDown)
		}
	}
	if l, e := d.Names(); len(l) != 0 || e != api.ErrDown {
		t.Fatalf("Names = %q, %d, want nothing, %d", l, e, api.ErrDown)
	}
	if !d.Down() {
		t.Fatal("the disk isn't down any more")
	}
}

// wantRoom holds how many bytes more a disk takes, which has no file with the longest name of z.
func wantRoom(t *testing.T, d *disk.Disk, must int) {
	t.Helper()
	name := strings.Repeat("z", letters)
	wantWrite(t, d, name, strings.Repeat("x", must+1), api.ErrSpace)
	wantNone(t, d, name)
	wantWrite(t, d, name, strings.Repeat("x", must), api.OK)
	wantWrite(t, d, name, strings.Repeat("x", must+1), api.ErrSpace)
	wantFile(t, d, file{name, strings.Repeat("x", must), false})
}

// wantFile holds one file.
func wantFile(t *testing.T, d *disk.Disk, f file) {
	t.Helper()
	if got, e := d.Read(f.name); string(got) != f.bytes || e != api.OK {
		t.Fatalf("Read(%q) = %d bytes, %d, want %d bytes", f.name, len(got), e, len(f.bytes))
	}
	if got := d.Safe(f.name); got != f.safe {
		t.Fatalf("Safe(%q) = %v, want %v", f.name, got, f.safe)
	}
}

// P12.1: a disk is made of each room from 0 to 65536, without files, up and not armed, and each is another one.
func TestNew(t *testing.T) {
	for _, room := range rooms {
		d, other := opened(t, room), opened(t, room)
		wantFiles(t, d)
		for _, name := range slices.Concat(names, noNames) {
			wantNone(t, d, name)
		}
		wantRoom(t, d, room)
		for range 1000 {
			wantWrite(t, d, "a", "", api.OK)
			wantSync(t, d, "a", api.OK)
			wantRename(t, d, "a", "b", api.OK)
		}
		wantUp(t, d)
		wantFiles(t, other)
		wantRoom(t, other, room)
	}
}

// P12.1: of what is no room there is no disk.
func TestNewRefuses(t *testing.T) {
	for _, room := range noRooms {
		if d := disk.New(room); d != nil {
			t.Errorf("New(%d) = %v, want nil", room, d)
		}
	}
}

// P12.1: Room sets the room, which may be any number from 0 to 65536, be it more or less than it was.
func TestRoom(t *testing.T) {
	for _, was := range rooms {
		for _, room := range rooms {
			d := opened(t, was)
			d.Room(room)
			wantFiles(t, d)
			wantRoom(t, d, room)
		}
	}
}

// P12.1: a room below 0 is 0, and one above 65536 is that.
func TestRoomIsCut(t *testing.T) {
	for _, room := range noRooms {
		must := 0
		if room > 0 {
			must = topRoom
		}
		d := opened(t, 5)
		d.Room(room)
		wantRoom(t, d, must)
		d.Room(7)
		wantWrite(t, d, strings.Repeat("z", letters), "", api.OK)
		wantWrite(t, d, "a", "12345678", api.ErrSpace)
		wantWrite(t, d, "a", "1234567", api.OK)
	}
}

// P12.1, P12.2: files for which there is no room any more stay as they are, may be synced and renamed, and may be written as far as the room goes that is left by the others.
func TestRoomTooSmall(t *testing.T) {
	d := opened(t, 9)
	wantWrite(t, d, "a", "aaaa", api.OK)
	wantSync(t, d, "a", api.OK)
	wantWrite(t, d, "b", "bbbbb", api.OK)
	d.Room(4)
	wantFiles(t, d, file{"a", "aaaa", true}, file{"b", "bbbbb", false})
	wantWrite(t, d, "c", "", api.ErrSpace)
	wantWrite(t, d, "a", "", api.ErrSpace)
	wantWrite(t, d, "b", "x", api.ErrSpace)
	wantFiles(t, d, file{"a", "aaaa", true}, file{"b", "bbbbb", false})
	wantWrite(t, d, "b", "", api.OK)
	wantWrite(t, d, "c", "", api.OK)
	wantWrite(t, d, "c", "x", api.ErrSpace)
	wantWrite(t, d, "a", "xxxxx", api.ErrSpace)
	wantWrite(t, d, "a", "xxx", api.OK)
	wantWrite(t, d, "c", "x", api.OK)
	d.Room(0)
	wantSync(t, d, "a", api.OK)
	wantRename(t, d, "c", "d", api.OK)
	wantFiles(t, d, file{"a", "xxx", true}, file{"b", "", false}, file{"d", "x", false})
	d.Crash(nil)
	wantFiles(t, d, file{"a", "xxx", true}, file{"b", "", true}, file{"d", "", true})
}

// P12.1: Room neither brings a disk up, nor arms it, nor ends its being armed; it holds for one that is down too.
func TestRoomLeavesTheRest(t *testing.T) {
	d := opened(t, 9)
	d.Arm(1)
	d.Room(5)
	wantWrite(t, d, "a", "aaaa", api.OK)
	wantWrite(t, d, "a", "aaa", api.ErrDown)
	d.Room(6)
	wantDown(t, d)
	d.Crash([]int{9})
	wantFiles(t, d, file{"a", "aaa", true})
	wantRoom(t, d, 3)
}

// P12.2: a file has one of the names, of 1 to 16 of the letters a to z; each of these is another one.
func TestNames(t *testing.T) {
	d := opened(t, 1000)
	var must []file
	for i, name := range names {
		must = append(must, file{name, name, i%2 == 0})
	}
	for _, i := range []int{7, 2, 11, 0, 9, 4, 1, 10, 3, 8, 6, 5} {
		wantWrite(t, d, names[i], names[i], api.OK)
		if must[i].safe {
			wantSync(t, d, names[i], api.OK)
		}
	}
	wantFiles(t, d, must...)
	for letter := 'a'; letter <= 'z'; letter++ {
		for n := 1; n <= letters; n++ {
			name := strings.Repeat(string(letter), n)
			wantWrite(t, d, name, "", api.OK)
			wantRename(t, d, name, "q", api.OK)
		}
	}
}

// P12.2, P12.3: what is no name is never a file's, and changes nothing.
func TestNoNames(t *testing.T) {
	d := opened(t, 9)
	wantWrite(t, d, "a", "aaa", api.OK)
	wantSync(t, d, "a", api.OK)
	wantWrite(t, d, "b", "bbb", api.OK)
	list := slices.Clone(noNames)
	for c := range 256 {
		if c < 'a' || c > 'z' {
			list = append(list, string([]byte{byte(c)}), string(rune(c)), "a"+string([]byte{byte(c)})+"a")
		}
	}
	for _, name := range list {
		for _, b := range []string{"", "x", "xxxx"} { // of which the last has no room
			wantWrite(t, d, name, b, api.ErrFile)
		}
		wantSync(t, d, name, api.ErrFile)
		wantRename(t, d, "a", name, api.ErrFile)
		wantRename(t, d, "b", name, api.ErrFile)
		wantRename(t, d, "c", name, api.ErrFile)
		wantRename(t, d, name, "a", api.ErrFile)
		wantRename(t, d, name, "c", api.ErrFile)
		wantRename(t, d, name, name, api.ErrFile)
		wantNone(t, d, name)
	}
	wantFiles(t, d, file{"a", "aaa", true}, file{"b", "bbb", false})
}

// P12.2: a file has just what was written last, all bytes of it, and isn't safe from then on, be it the same as before.
func TestWrite(t *testing.T) {
	var all []byte
	for c := range 256 {
		all = append(all, byte(c))
	}
	d := opened(t, topRoom)
	wantWrite(t, d, "other", "other", api.OK)
	wantSync(t, d, "other", api.OK)
	other := file{"other", "other", true}
	for _, b := range []string{"abc", "abc", "xy", "", "", "longer than that", string(all), strings.Repeat("\xff", topRoom-5), "z"} {
		wantWrite(t, d, "a", b, api.OK)
		wantFiles(t, d, file{"a", b, false}, other)
		wantSync(t, d, "a", api.OK)
		wantFiles(t, d, file{"a", b, true}, other)
	}
	wantWrite(t, d, "a", "z", api.OK)
	wantFiles(t, d, file{"a", "z", false}, other)
	if e := d.Write("b", nil); e != api.OK {
		t.Fatalf("Write(b, nil) = %d", e)
	}
	wantFiles(t, d, file{"a", "z", false}, file{"b", "", false}, other)
}

// P12.2: the other files' bytes and what is written together keep to the room; a file's own old bytes don't count, and what is refused changes nothing.
func TestWriteSpace(t *testing.T) {
	d := opened(t, 10)
	wantWrite(t, d, "a", "aaaa", api.OK)
	wantSync(t, d, "a", api.OK)
	wantWrite(t, d, "b", "bbbbbbb", api.ErrSpace)
	wantFiles(t, d, file{"a", "aaaa", true})
	wantWrite(t, d, "b", "bbbbbb", api.OK)
	wantWrite(t, d, "c", "c", api.ErrSpace)
	wantWrite(t, d, "c", "", api.OK)
	wantWrite(t, d, "a", "AAAAA", api.ErrSpace)
	wantFiles(t, d, file{"a", "aaaa", true}, file{"b", "bbbbbb", false}, file{"c", "", false})
	wantWrite(t, d, "a", "AAAA", api.OK)
	wantWrite(t, d, "a", "A", api.OK)
	wantWrite(t, d, "c", "cccc", api.ErrSpace)
	wantWrite(t, d, "c", "ccc", api.OK)
	wantWrite(t, d, "b", "bbbbbbb", api.ErrSpace)
	wantFiles(t, d, file{"a", "A", false}, file{"b", "bbbbbb", false}, file{"c", "ccc", false})
	for _, b := range []string{strings.Repeat("x", topRoom), strings.Repeat("x", 1<<20)} {
		wantWrite(t, d, "a", b, api.ErrSpace)
	}
	wantWrite(t, d, "b", "", api.OK)
	wantWrite(t, d, "a", "AAAAAAA", api.OK)
	wantFiles(t, d, file{"a", "AAAAAAA", false}, file{"b", "", false}, file{"c", "ccc", false})
}

// P12.2: a file whose place another one takes, and what a crash takes, leave their room.
func TestRoomComesBack(t *testing.T) {
	d := opened(t, 10)
	wantWrite(t, d, "a", "aaa", api.OK)
	wantWrite(t, d, "b", "bbbbb", api.OK)
	wantRename(t, d, "a", "a", api.OK)
	wantWrite(t, d, "c", "ccc", api.ErrSpace)
	wantRename(t, d, "a", "b", api.OK)
	wantWrite(t, d, "c", "cccccccc", api.ErrSpace)
	wantWrite(t, d, "c", "ccccccc", api.OK)
	d.Crash([]int{1, 2})
	wantFiles(t, d, file{"b", "a", true}, file{"c", "cc", true})
	wantRoom(t, d, 7)
}

// P12.2, P12.3: what is written is neither changed nor kept, and what is told is new memory.
func TestMemory(t *testing.T) {
	d := opened(t, 100)
	b := append(make([]byte, 0, 64), "abcdef"...)
	if e := d.Write("a", b[:3]); e != api.OK {
		t.Fatalf("Write = %d", e)
	}
	if got := b[:64]; !bytes.Equal(got[:6], []byte("abcdef")) || !bytes.Equal(got[6:], make([]byte, 58)) {
		t.Fatalf("Write changed its bytes to %q", got)
	}
	copy(b, "XYZ")
	one, _ := d.Read("a")
	two, _ := d.Read("a")
	for i := range one[:cap(one)] {
		one[:cap(one)][i] = '1'
	}
	for i := range b[:cap(b)] {
		b[:cap(b)][i] = '2'
	}
	if string(two) != "abc" {
		t.Fatalf("another answer is %q", two)
	}
	wantFiles(t, d, file{"a", "abc", false})
	d.Crash([]int{2})
	two, _ = d.Read("a")
	if got := append(two, "zz"...); string(got) != "abzz" {
		t.Fatalf("%q", got)
	}
	wantFiles(t, d, file{"a", "ab", true})
	for range 3 {
		list, _ := d.Names()
		list = append(list, "x")
		list[0] = "y"
		wantFiles(t, d, file{"a", "ab", true})
	}
}

// P12.2: a file is written, renamed and cut apart from all others, be they written of the same bytes.
func TestFilesAreApart(t *testing.T) {
	d := opened(t, 100)
	b := []byte("same")
	for _, name := range []string{"a", "b", "c"} {
		if e := d.Write(name, b); e != api.OK {
			t.Fatalf("Write = %d", e)
		}
	}
	wantRename(t, d, "c", "d", api.OK)
	wantWrite(t, d, "c", "c", api.OK)
	d.Crash([]int{1, 2, 3, 4})
	wantFiles(t, d, file{"a", "s", true}, file{"b", "sa", true}, file{"c", "c", true}, file{"d", "same", true})
}

// P12.2: Sync makes one file safe, and no other one, as often as it is asked; of no file it is ErrFile.
func TestSync(t *testing.T) {
	d := opened(t, 10)
	wantSync(t, d, "a", api.ErrFile)
	wantFiles(t, d)
	wantWrite(t, d, "a", "aaa", api.OK)
	wantWrite(t, d, "b", "", api.OK)
	wantSync(t, d, "c", api.ErrFile)
	wantFiles(t, d, file{"a", "aaa", false}, file{"b", "", false})
	wantSync(t, d, "b", api.OK)
	wantFiles(t, d, file{"a", "aaa", false}, file{"b", "", true})
	wantSync(t, d, "a", api.OK)
	wantSync(t, d, "a", api.OK)
	wantFiles(t, d, file{"a", "aaa", true}, file{"b", "", true})
	wantRename(t, d, "a", "c", api.OK)
	wantSync(t, d, "a", api.ErrFile)
	wantFiles(t, d, file{"b", "", true}, file{"c", "aaa", true})
}

// P12.2: a file that is renamed is as it was, safe or not, whether or not there was one of that name, and whatever that one was.
func TestRename(t *testing.T) {
	for _, safe := range []bool{false, true} {
		for _, there := range []string{"none", "unsafe", "safe"} {
			d := opened(t, 20)
			wantWrite(t, d, "a", "aaa", api.OK)
			if safe {
				wantSync(t, d, "a", api.OK)
			}
			if there != "none" {
				wantWrite(t, d, "b", "bbbbb", api.OK)
			}
			if there == "safe" {
				wantSync(t, d, "b", api.OK)
			}
			wantWrite(t, d, "c", "c", api.OK)
			wantRename(t, d, "a", "b", api.OK)
			wantNone(t, d, "a")
			wantFiles(t, d, file{"b", "aaa", safe}, file{"c", "c", false})
			must := "a"
			if safe {
				must = "aaa"
			}
			d.Crash([]int{1, 1})
			wantFiles(t, d, file{"b", must, true}, file{"c", "c", true}) // the rename is for good
		}
	}
}

// P12.2: a file that is renamed to its own name stays as it is.
func TestRenameSame(t *testing.T) {
	d := opened(t, 20)
	wantRename(t, d, "a", "a", api.ErrFile)
	wantWrite(t, d, "a", "aaa", api.OK)
	wantWrite(t, d, "b", "bb", api.OK)
	wantRename(t, d, "a", "a", api.OK)
	wantFiles(t, d, file{"a", "aaa", false}, file{"b", "bb", false})
	wantSync(t, d, "a", api.OK)
	wantRename(t, d, "a", "a", api.OK)
	wantFiles(t, d, file{"a", "aaa", true}, file{"b", "bb", false})
}

// P12.2: of no file nothing is renamed, be there one of the new name or not.
func TestRenameNone(t *testing.T) {
	d := opened(t, 20)
	wantWrite(t, d, "b", "bb", api.OK)
	wantSync(t, d, "b", api.OK)
	for _, to := range append([]string{"a", "b", "c"}, noNames...) {
		wantRename(t, d, "a", to, api.ErrFile)
	}
	wantFiles(t, d, file{"b", "bb", true})
}

// P12.3: Names are rising by their letters, whatever came first, and of no files there are none.
func TestNamesRise(t *testing.T) {
	d := opened(t, 0)
	wantFiles(t, d)
	var must []string
	for i := range 300 {
		k := i * 7919 % 300
		name := string([]byte{byte('a' + k%26), byte('a' + k/26)})[:1+k%5/4]
		if k%3 == 0 {
			name = strings.Repeat(name, 1+k%8)
		}
		wantWrite(t, d, name, "", api.OK)
		if !slices.Contains(must, name) {
			must = append(must, name)
		}
	}
	slices.Sort(must)
	if got, e := d.Names(); !slices.Equal(got, must) || e != api.OK || len(must) < 50 {
		t.Fatalf("Names = %q, %d, want %q", got, e, must)
	}
}

// P12.4: a disk does as many calls more as it is armed for, be they which they may, and goes down at the next one.
func TestArm(t *testing.T) {
	for n := range 40 {
		d := opened(t, 20)
		wantWrite(t, d, "a", "aaa", api.OK)
		d.Arm(n)
		for i := range n {
			switch i % 4 {
			case 0:
				wantWrite(t, d, "a", "aa", api.OK)
			case 1:
				wantSync(t, d, "a", api.OK)
			case 2:
				wantRename(t, d, "a", "b", api.OK)
			case 3:
				wantRename(t, d, "b", "a", api.OK)
			}
			wantUp(t, d)
		}
		switch n % 4 {
		case 0:
			wantWrite(t, d, "a", "a", api.ErrDown)
		case 1:
			wantSync(t, d, "a", api.ErrDown)
		case 2:
			wantRename(t, d, "a", "b", api.ErrDown)
		case 3:
			wantRename(t, d, "b", "a", api.ErrDown)
		}
		wantDown(t, d)
	}
}

// P12.4: the bytes of a Write at which the disk goes down are there, and aren't safe, be it a new file or one that was safe.
func TestArmWrite(t *testing.T) {
	for keep, must := range []string{"", "x", "xy", "xyz", "xyz"} {
		for _, name := range []string{"a", "b", "c"} {
			d := opened(t, 6)
			wantWrite(t, d, "a", "aa", api.OK)
			wantSync(t, d, "a", api.OK)
			wantWrite(t, d, "b", "b", api.OK)
			d.Arm(0)
			wantWrite(t, d, name, "xyz", api.ErrDown)
			if d.Safe(name) {
				t.Fatalf("%q is safe", name)
			}
			if name != "a" && !d.Safe("a") {
				t.Fatal("a isn't safe any more")
			}
			wantDown(t, d)
			kept := []int{keep}
			if name == "c" {
				kept = []int{9, keep}
			}
			d.Crash(kept)
			all := map[string]string{"a": "aa", "b": ""}
			if name == "c" {
				all["b"] = "b"
			}
			all[name] = must
			files := []file{{"a", all["a"], true}, {"b", all["b"], true}}
			if name == "c" {
				files = append(files, file{"c", must, true})
			}
			wantFiles(t, d, files...)
		}
	}
}

// P12.4: a Sync and a Rename at which the disk goes down aren't done.
func TestArmSyncAndRename(t *testing.T) {
	armed := func() *disk.Disk {
		d := opened(t, 20)
		wantWrite(t, d, "a", "aaa", api.OK)
		wantWrite(t, d, "b", "bb", api.OK)
		wantSync(t, d, "b", api.OK)
		d.Arm(0)
		return d
	}
	wantLeft := func(d *disk.Disk) {
		t.Helper()
		wantDown(t, d)
		if d.Safe("a") || !d.Safe("b") || d.Safe("c") {
			t.Fatal("what is safe is changed")
		}
		d.Crash([]int{1})
		wantFiles(t, d, file{"a", "a", true}, file{"b", "bb", true})
	}
	d := armed()
	wantSync(t, d, "a", api.ErrDown)
	wantLeft(d)
	d = armed()
	wantSync(t, d, "b", api.ErrDown)
	wantLeft(d)
	for _, from := range []string{"a", "b"} {
		for _, to := range []string{"a", "b", "c"} { // its own name too: this would be answered OK as well
			d = armed()
			wantRename(t, d, from, to, api.ErrDown)
			wantLeft(d)
		}
	}
}

// P12.4: calls that are refused, and other calls than Write, Sync and Rename, neither count nor let the disk go down.
func TestArmCounts(t *testing.T) {
	for n := range 5 {
		d := opened(t, 5)
		wantWrite(t, d, "a", "aaa", api.OK)
		d.Arm(n)
		for i := n; ; i-- {
			for range 3 {
				wantWrite(t, d, "", "", api.ErrFile)
				wantWrite(t, d, "A", "xxxxxx", api.ErrFile)
				wantWrite(t, d, "a", "xxxxxx", api.ErrSpace)
				wantWrite(t, d, "b", "xxx", api.ErrSpace)
				wantSync(t, d, "b", api.ErrFile)
				wantRename(t, d, "b", "a", api.ErrFile)
				wantRename(t, d, "a", "", api.ErrFile)
				wantNone(t, d, "b")
				d.Room(5)
			}
			wantFiles(t, d, file{"a", "aaa", false})
			if i == 0 {
				break
			}
			wantRename(t, d, "a", "a", api.OK)
		}
		wantRename(t, d, "a", "a", api.ErrDown)
		wantDown(t, d)
	}
}

// P12.4: below 0 it isn't armed, and what it was armed for last holds.
func TestArmAnew(t *testing.T) {
	d := opened(t, 20)
	for _, n := range []int{-1, -2, -1000, math.MinInt} {
		d.Arm(0)
		d.Arm(n)
		for range 100 {
			wantWrite(t, d, "a", "aaa", api.OK)
		}
	}
	d.Arm(math.MaxInt)
	for range 100 {
		wantWrite(t, d, "a", "aaa", api.OK)
	}
	d.Arm(1)
	wantWrite(t, d, "a", "aaa", api.OK)
	d.Arm(1)
	wantWrite(t, d, "a", "aaa", api.OK)
	d.Arm(5)
	wantWrite(t, d, "a", "aaa", api.OK)
	d.Arm(0)
	wantUp(t, d)
	wantWrite(t, d, "a", "aaa", api.ErrDown)
	wantDown(t, d)
}

// P12.4: arming a disk that is down doesn't bring it up; behind a crash it isn't armed.
func TestArmDown(t *testing.T) {
	for _, n := range []int{math.MinInt, -1, 0, 1, 5, math.MaxInt} {
		d := opened(t, 20)
		d.Arm(0)
		wantWrite(t, d, "a", "aaa", api.ErrDown)
		d.Arm(n)
		wantDown(t, d)
		d.Crash(nil)
		for range 20 {
			wantWrite(t, d, "a", "aaa", api.OK)
			wantSync(t, d, "a", api.OK)
		}
		wantFiles(t, d, file{"a", "aaa", true})
	}
}

// P12.5: a crash leaves all of the files that are safe, of the others by their names as much as it is told, and all are safe then.
func TestCrash(t *testing.T) {
	for _, c := range []struct {
		keep             []int
		bb, c, dd, empty string
	}{
		{nil, "", "", "", ""},
		{[]int{}, "", "", "", ""},
		{[]int{1}, "b", "", "", ""},
		{[]int{1, 2}, "b", "cc", "", ""},
		{[]int{1, 2, 3}, "b", "cc", "ddd", ""},
		{[]int{1, 2, 3, 4}, "b", "cc", "ddd", ""},
		{[]int{1, 2, 3, 4, 5, 6, 7}, "b", "cc", "ddd", ""},
		{[]int{0, 0, 2}, "", "", "dd", ""},
		{[]int{3, 3, 3, 3}, "bbb", "ccc", "ddd", ""},
		{[]int{4, 5, 5, 1}, "bbb", "cccc", "ddddd", ""},
		{[]int{-1, 4, -5, -1}, "", "cccc", "", ""},
		{[]int{math.MaxInt, math.MinInt, math.MaxInt}, "bbb", "", "ddddd", ""},
		{[]int{1 << 32, 1<<32 + 1, 6}, "bbb", "cccc", "ddddd", ""},
	} {
		d := opened(t, 100)
		for _, f := range []file{{"d", "ddddd", false}, {"ca", "safe", true}, {"c", "cccc", false}, {"e", "", false}, {"b", "bbb", false}, {"a", "aaaa", true}} {
			wantWrite(t, d, f.name, f.bytes, api.OK)
			if f.safe {
				wantSync(t, d, f.name, api.OK)
			}
		}
		room := append(slices.Clone(c.keep), 77)
		d.Crash(room[:len(c.keep)])
		if !slices.Equal(room, append(slices.Clone(c.keep), 77)) {
			t.Fatalf("Crash changed its numbers to %v", room)
		}
		must := []file{{"a", "aaaa", true}, {"b", c.bb, true}, {"c", c.c, true}, {"ca", "safe", true}, {"d", c.dd, true}, {"e", c.empty, true}}
		wantFiles(t, d, must...)
		d.Crash([]int{0, 0, 0, 0, 0, 0})
		wantFiles(t, d, must...)
	}
}

// P12.5: behind a crash a disk isn't down, nor armed, and works as before, with the room that it had.
func TestCrashBringsUp(t *testing.T) {
	for _, n := range []int{0, 1, 2, 5} {
		d := opened(t, 10)
		wantWrite(t, d, "a", "aaa", api.OK)
		d.Arm(n)
		for range min(n, 2) {
			wantWrite(t, d, "a", "aaaa", api.OK)
		}
		if n < 2 {
			wantWrite(t, d, "a", "aaaa", api.ErrDown)
			wantDown(t, d)
		}
		d.Crash([]int{2})
		wantFiles(t, d, file{"a", "aa", true})
		for range 20 {
			wantWrite(t, d, "a", "abc", api.OK)
			wantFiles(t, d, file{"a", "abc", false})
			wantSync(t, d, "a", api.OK)
			wantRename(t, d, "a", "b", api.OK)
			wantRename(t, d, "b", "a", api.OK)
			wantFiles(t, d, file{"a", "abc", true})
		}
		wantRoom(t, d, 7)
		d.Arm(0)
		wantSync(t, d, "a", api.ErrDown)
		wantDown(t, d)
	}
}

// P12.5: a disk without files may crash as well.
func TestCrashEmpty(t *testing.T) {
	d := opened(t, 10)
	d.Crash(nil)
	d.Crash([]int{5, 6})
	wantFiles(t, d)
	wantRoom(t, d, 10)
}

// The chapter's examples.
func TestExamples(t *testing.T) {
	d := opened(t, 10)
	wantWrite(t, d, "new", "abc", api.OK)
	wantSync(t, d, "new", api.OK)
	wantRename(t, d, "new", "conf", api.OK)
	wantFiles(t, d, file{"conf", "abc", true})
	wantWrite(t, d, "conf", "xyz", api.OK)
	d.Crash([]int{1})
	wantFiles(t, d, file{"conf", "x", true})
}
