package cell_test

import (
	"math"
	"testing"

	"ledgerstone/api"
	"ledgerstone/cell"
)

// busy is a memory with cells of each kind.
func busy[T any](t *testing.T, v T) *cell.Memory[T] {
	t.Helper()
	m := made[T](t, 4)
	advances(t, m, 1)
	done(t, m.Fill(0, v), m.Lock(1, 1), m.Publish(1, 1, v, 1), m.Lock(2, 1), m.Lock(1, 2))
	return m
}

// notMemories are memories that New did not make, and none.
func notMemories[T any](t *testing.T, v T) []*cell.Memory[T] {
	t.Helper()
	m := busy(t, v)
	copied := *m
	other := made[T](t, 2)
	*other = *m
	emptied := busy(t, v)
	*emptied = cell.Memory[T]{}
	var within struct{ m cell.Memory[T] }
	within.m = *m
	return []*cell.Memory[T]{nil, {}, new(cell.Memory[T]), &copied, other, emptied, &within.m}
}

// noMemory asks each call of each memory that is none, whatever the arguments are.
func noMemory[T comparable](t *testing.T, v T) {
	t.Helper()
	var nothing T
	for k, m := range notMemories(t, v) {
		for range 2 {
			if m.Size() != 0 || m.Clock() != 0 {
				t.Fatal(k, m.Size(), m.Clock())
			}
			if clock, err := m.Advance(); clock != 0 || err != api.ErrNil {
				t.Fatal(k, clock, err)
			}
			for _, owner := range append(noOwners(), owners()...) {
				owns(t, m, owner)
			}
			for _, i := range append(noCells(4), 0, 1, 2, 3) {
				if got, version, owner, err := m.Load(i); got != nothing || version != 0 || owner != 0 || err != api.ErrNil {
					t.Fatal(k, i, got, version, owner, err)
				}
				tells(t, m.Fill(i, v), api.ErrNil, k, i)
				for _, owner := range []int{math.MinInt, -1, 0, 1, 2, 3, math.MaxInt} {
					tells(t, m.Lock(i, owner), api.ErrNil, k, i, owner)
					tells(t, m.Unlock(i, owner), api.ErrNil, k, i, owner)
					for _, version := range []int64{math.MinInt64, -1, 0, 1, 2, math.MaxInt64} {
						tells(t, m.Publish(i, owner, v, version), api.ErrNil, k, i, owner, version)
					}
				}
			}
		}
	}
}

// R5: a memory that is nil, or that New did not make: of plain numbers, and of something else.
func TestNoMemory(t *testing.T) {
	noMemory(t, 5)
	noMemory(t, "text")
	noMemory(t, any(&pair{}))
	noMemory(t, struct{}{})
}

// R5: a copy by value is no memory, and what is asked of it leaves the one that it is of as it was.
func TestCopyLeavesTheFirst(t *testing.T) {
	m := busy(t, "a")
	before := whole(m)
	copied := *m
	copied.Advance()
	copied.Fill(0, "x")
	copied.Lock(3, 9)
	copied.Unlock(2, 1)
	copied.Publish(1, 2, "x", 1)
	if after := whole(m); after != before {
		t.Fatal("not as it was:", before, after)
	}
	advances(t, m, 2)
	done(t, m.Publish(1, 2, "b", 2))
	has(t, m, 1, "b", 2, 0)
}

// Errors: where several hold, the one that the table names first is told.
func TestWhichErrorComesFirst(t *testing.T) {
	m := busy(t, "a") // cell 0 is free at version 0, cell 1 owner 2's at version 1, cell 2 owner 1's at version 0
	for _, c := range []struct {
		what string
		want api.Errno
		call func() api.Errno
	}{
		{"Fill: owner and version", api.ErrBusy, func() api.Errno { return m.Fill(1, "x") }},
		{"Lock: no cell, no owner", api.ErrArg, func() api.Errno { return m.Lock(4, 0) }},
		{"Lock: no owner, another one has it", api.ErrArg, func() api.Errno { return m.Lock(1, 0) }},
		{"Lock: below 0, another one has it", api.ErrArg, func() api.Errno { return m.Lock(1, -2) }},
		{"Unlock: no owner, nobody has it", api.ErrArg, func() api.Errno { return m.Unlock(0, 0) }},
		{"Unlock: no owner, another one has it", api.ErrArg, func() api.Errno { return m.Unlock(1, -2) }},
		{"Publish: no cell, too late", api.ErrArg, func() api.Errno { return m.Publish(-1, 2, "x", 9) }},
		{"Publish: no owner, nobody has it, too late", api.ErrArg, func() api.Errno { return m.Publish(0, 0, "x", 9) }},
		{"Publish: no owner, another one has it, too early", api.ErrArg, func() api.Errno { return m.Publish(1, 0, "x", 0) }},
		{"Publish: another one has it, too early", api.ErrBusy, func() api.Errno { return m.Publish(1, 1, "x", 1) }},
		{"Publish: another one has it, too late", api.ErrBusy, func() api.Errno { return m.Publish(2, 2, "x", 2) }},
		{"Publish: nobody has it, too late", api.ErrBusy, func() api.Errno { return m.Publish(0, 1, "x", 2) }},
		{"Publish: nobody has it, below 0", api.ErrBusy, func() api.Errno { return m.Publish(0, 1, "x", -1) }},
	} {
		refuses(t, m, c.want, c.call, c.what)
	}
}
