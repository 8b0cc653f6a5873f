package disk_test

import (
	"bytes"
	"math/rand"
	"slices"
	"testing"

	"ledgerstone/api"
	"ledgerstone/disk"
)

// model is a disk by the chapter's words alone: what stands is reckoned anew each time, and what is armed is the number of an operation.
type model struct {
	durable       []byte
	blocks        []int
	data          [][]byte
	writes        int
	down          bool
	operations    int
	armAt, failAt int
}

func (m *model) size() int {
	return len(m.durable) / 4096
}

func (m *model) stands() []byte {
	all := slices.Repeat([]bool{true}, len(m.blocks))
	return wanted(m.durable, m.blocks, m.data, all, -1, 0)
}

func (m *model) operation() api.Errno {
	if m.down {
		return api.ErrDown
	}
	at := m.operations
	m.operations++
	m.down = at == m.armAt
	switch {
	case m.down:
		return api.ErrDown
	case at == m.failAt:
		return api.ErrIO
	}
	return api.OK
}

func (m *model) write(n int, b []byte) api.Errno {
	switch {
	case n < 0 || n >= m.size():
		return api.ErrBlock
	case len(b) != 4096:
		return api.ErrArg
	}
	e := m.operation()
	if e == api.OK {
		m.blocks = append(m.blocks, n)
		m.data = append(m.data, bytes.Clone(b))
		m.writes++
	}
	return e
}

func (m *model) flush() api.Errno {
	e := m.operation()
	if e == api.OK {
		m.durable = m.stands()
		m.blocks, m.data = nil, nil
	}
	return e
}

func (m *model) arm(place *int, ops int) api.Errno {
	if ops < 0 {
		return api.ErrArg
	}
	*place = m.operations + ops
	return api.OK
}

func (m *model) crash(keep []bool, torn int, sectors uint8) {
	m.durable = wanted(m.durable, m.blocks, m.data, keep, torn, sectors)
	m.blocks, m.data = nil, nil
	m.down = false
	m.armAt, m.failAt = none, none
}

// act does the same thing, by chance, to both, and holds the answers against each other.
func act(t *testing.T, chance *rand.Rand, m *model, d *disk.Disk) *disk.Disk {
	t.Helper()
	switch chance.Intn(12) {
	case 0, 1, 2, 3, 4:
		n := chance.Intn(m.size()+2) - 1
		b := mixed(chance.Intn(1000), 1)
		if chance.Intn(10) == 0 {
			b = b[:chance.Intn(4096)]
		}
		want(t, d.Write(n, b), m.write(n, b), "Write", n, len(b))
	case 5, 6:
		want(t, d.Flush(), m.flush(), "Flush")
	case 7:
		ops := chance.Intn(12) - 1
		want(t, d.Arm(ops), m.arm(&m.armAt, ops), "Arm", ops)
	case 8, 9:
		ops := chance.Intn(6) - 1
		want(t, d.Fail(ops), m.arm(&m.failAt, ops), "Fail", ops)
	case 10:
		keep := keeps(chance.Intn(1<<20), chance.Intn(len(m.blocks)+3))
		torn, sectors := chance.Intn(len(m.blocks)+3)-1, uint8(chance.Intn(256))
		m.crash(keep, torn, sectors)
		want(t, d.Crash(keep, torn, sectors), api.OK, "Crash")
	case 11:
		d = d.Copy()
		m.writes = 0
	}
	return d
}

func compare(t *testing.T, m *model, d *disk.Disk) {
	t.Helper()
	image := m.stands()
	if d.Size() != m.size() || !bytes.Equal(d.Image(), image) {
		t.Fatal("another disk")
	}
	wantPending(t, d, m.blocks...)
	wantWrites(t, d, m.writes)
	for n := range m.size() {
		b, e := d.Read(n)
		if m.down {
			if e != api.ErrDown || b != nil {
				t.Fatal("read without power", int(e))
			}
		} else if e != api.OK || !bytes.Equal(b, image[4096*n:4096*(n+1)]) {
			t.Fatal("another block", n, int(e))
		}
	}
}

// P4.1 to P4.4: long mixes of all calls answer as the chapter's words say.
func TestAgainstTheModel(t *testing.T) {
	seen := map[bool]int{}
	for seed := range 60 {
		chance := rand.New(rand.NewSource(int64(seed)))
		blocks := 1 + chance.Intn(3)
		m := &model{durable: make([]byte, 4096*blocks), armAt: none, failAt: none}
		d := newDisk(t, blocks)
		if chance.Intn(2) == 1 {
			m.durable = mixed(seed, blocks)
			d = loaded(t, m.durable)
		}
		for range 80 {
			d = act(t, chance, m, d)
			compare(t, m, d)
			seen[m.down]++
			if t.Failed() {
				t.Fatal("seed", seed)
			}
		}
	}
	if seen[true] < 200 || seen[false] < 1000 {
		t.Error("the test itself", seen)
	}
}
