package tree_test

import (
	"strings"
	"testing"

	"ledgerstone/api"
	"ledgerstone/tree"
)

const most = 1<<63 - 1

// holding is a tree with a file /f of these bytes, and a directory /d.
func holding(data string) api.Tree {
	return treeOf(4, dirOf(1, "d 3", "f 2"), fileOf(2, 1, data), dirOf(3))
}

// P22.3: Truncate cuts, or puts noughts behind.
func TestTruncate(t *testing.T) {
	for _, data := range []string{"", "x", "data", "a\x00b\x00", noughts(5), strings.Repeat("long", 3000)} {
		for _, count := range []int{0, 1, 2, 3, 4, 5, 9, 4096, 11999, 12000, 12001, 131071, 131072} {
			want := (data + noughts(count))[:count]
			x := becomes(t, holding(data), truncate("/f", count), holding(want))
			tells(t, x, stat("/f"), fileStat(1, count))
		}
	}
	// What was cut away does not come back.
	x := becomes(t, holding("data"), truncate("/f", 1), holding("d"))
	x = becomes(t, x, truncate("/f", 4), holding("d\x00\x00\x00"))
	o := truncate("/f", 2)
	o.At, o.To, o.Data = most, "no path", []byte("data")
	becomes(t, x, o, holding("d\x00"))
}

// P22.3: Read tells the bytes from At on, at most Count.
func TestRead(t *testing.T) {
	for _, data := range []string{"", "x", "data", noughts(3), "a\x00b"} {
		for at := range 7 {
			for count := range 7 {
				rest := data[min(at, len(data)):]
				want := rest[:min(count, len(rest))]
				if next := tells(t, holding(data), read("/f", at, count), bytesOf(want)); !equal(next, holding(data)) {
					t.Fatal(text(next))
				}
			}
			tells(t, holding(data), read("/f", at, most), bytesOf(data[min(at, len(data)):]))
			tells(t, holding(data), read("/f", most-at, 1+at), bytesOf(""))
		}
	}
	whole := strings.Repeat("datum...", 131072/8)
	x := holding(whole)
	tells(t, x, read("/f", 0, 131072), bytesOf(whole))
	tells(t, x, read("/f", 0, most), bytesOf(whole))
	tells(t, x, read("/f", 1, 131072), bytesOf(whole[1:]))
	tells(t, x, read("/f", 131071, 131073), bytesOf("."))
	tells(t, x, read("/f", 131072, 1), bytesOf(""))
	tells(t, x, read("/f", 131073, 1), bytesOf("")) // Read knows no ErrSize
	o := read("/f", 2, 2)
	o.To, o.Data = "no path", []byte("data")
	tells(t, x, o, bytesOf("tu"))
}

// P22.3: Write puts Data from At on, with noughts between where At is behind the end; no Data change nothing at all.
func TestWrite(t *testing.T) {
	for _, data := range []string{"", "x", "data", "a\x00b\x00c"} {
		for _, b := range []string{"", "y", "YZ", "\x00", "\x00\x00\x00", "longer!"} {
			for at := range 9 {
				want := data
				if b != "" {
					want = (data + noughts(at))[:at] + b
					want += (data + noughts(len(want)))[len(want):max(len(want), len(data))]
				}
				for _, count := range []int{0, 1, 5, most} { // Count counts nothing
					o := write("/f", at, b)
					o.Count, o.To = count, "no path"
					if next := tells(t, holding(data), o, counted(len(b))); !equal(next, holding(want)) {
						t.Fatalf("%v led to %s, wanted %q", o, text(next), want)
					}
				}
			}
		}
	}
	x := holding("data")
	next := tells(t, x, api.Op{Kind: 9, Path: "/f", At: 7}, counted(0)) // none is as empty
	if !equal(next, x) {
		t.Fatal(text(next))
	}
}

// P22.3: a file has 131072 bytes at most; At, and where the Data end, are held against it.
func TestSizes(t *testing.T) {
	x := holding("data")
	refuses(t, x, 219, truncate("/f", 131073), truncate("/f", 1<<32), truncate("/f", most))
	tells(t, x, truncate("/f", 131072), api.Result{})
	for _, n := range []int{1, 2, 100, 131071, 131072} {
		b := strings.Repeat("b", n)
		next := tells(t, x, write("/f", 131072-n, b), counted(n))
		tells(t, next, stat("/f"), fileStat(1, 131072))
		tells(t, next, read("/f", 131072-n, most), bytesOf(b))
		refuses(t, x, 219, write("/f", 131073-n, b), write("/f", 131072, b), write("/f", 131073, b), write("/f", most, b), write("/f", most-n, b), write("/f", most-n+1, b), write("/f", most/2+1, b))
	}
	refuses(t, x, 219, write("/f", 0, noughts(131073)), write("/f", 1, noughts(131072)), write("/f", 0, noughts(200000)), write("/f", most, noughts(200000)))
	for _, at := range []int{0, 4, 5, 131071, 131072} {
		if next := tells(t, x, write("/f", at, ""), counted(0)); !equal(next, x) {
			t.Fatal(text(next))
		}
	}
	refuses(t, x, 219, write("/f", 131073, ""), write("/f", 1<<32, ""), write("/f", most, ""))
	full := holding(strings.Repeat("f", 131072))
	next := tells(t, full, write("/f", 131071, "x"), counted(1))
	tells(t, next, read("/f", 131070, 9), bytesOf("fx"))
	refuses(t, full, 219, write("/f", 131071, "xy"), write("/f", 131072, "x"))
}

// P22.3: an At or a Count below 0 counts ahead of what is found, and behind what is wrong with the path; of other operations it counts nothing.
func TestBelowNought(t *testing.T) {
	x := holding("data")
	for kind := api.OpKind(7); kind <= 9; kind++ {
		for _, low := range [][2]int{{-1, 0}, {0, -1}, {-1, -1}, {-1, 131073}, {131073, -1}, {-1 << 63, 0}, {0, -1 << 63}, {most, -1}, {-1, most}} {
			for path, want := range map[string]api.Errno{"/f": 2, "/": 2, "/d": 2, "/x": 2, "/x/y": 2, "/f/y": 2, "": 211, "f": 211, "/f/": 211, "/..": 210} {
				for _, data := range []string{"", "x", noughts(131073)} {
					refuses(t, x, want, api.Op{Kind: kind, Path: path, At: low[0], Count: low[1], Data: []byte(data)})
				}
			}
		}
	}
	for _, o := range []api.Op{stat("/f"), list("/"), unlink("/f"), rmdir("/d"), rename("/f", "/a"), link("/f", "/a"), create("/a"), mkdir("/a")} {
		want, r := tree.Apply(x, o)
		o.At, o.Count = -1, -1
		if next := tells(t, x, o, r); r.Err != 0 || !equal(next, want) {
			t.Fatal(o, text(next))
		}
	}
}

// P22.3: what is found counts ahead of the sizes.
func TestBytesRefused(t *testing.T) {
	x := holding("data")
	for path, want := range map[string]api.Errno{"/": 214, "/d": 214, "/x": 212, "/x/y": 212, "/d/x": 212, "/f/y": 213, "/f/y/z": 213, "": 211, "d": 211, "/.": 210} {
		for _, count := range []int{0, 1, 131072, 131073, most} {
			refuses(t, x, want, truncate(path, count), read(path, 0, count), read(path, count, 1), write(path, count, "x"), write(path, count, ""), write(path, 0, noughts(131073)))
		}
	}
}
