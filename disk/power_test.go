package disk_test

import (
	"bytes"
	"math"
	"slices"
	"testing"

	"ledgerstone/api"
	"ledgerstone/disk"
)

// none: an Arm or Fail that is not called.
const none = -1

// armed is a disk of two blocks with an unflushed write upon which Arm and Fail were called, in either order.
func armed(t *testing.T, arm, fail int, failFirst bool) *disk.Disk {
	t.Helper()
	d := newDisk(t, 2)
	write(t, d, 1, filled(9))
	calls := []func(){
		func() {
			if arm != none {
				want(t, d.Arm(arm), api.OK, "Arm", arm)
			}
		},
		func() {
			if fail != none {
				want(t, d.Fail(fail), api.OK, "Fail", fail)
			}
		},
	}
	if failFirst {
		slices.Reverse(calls)
	}
	for _, call := range calls {
		call()
	}
	return d
}

// operate does operation number i: a write or a flush.
func operate(d *disk.Disk, i int, flushes uint) api.Errno {
	if flushes>>i&1 == 1 {
		return d.Flush()
	}
	return d.Write(0, filled(byte(i+1)))
}

// P4.3: all small numbers of both, at once or one alone, in all mixes of writes and flushes.
func TestArmedOperations(t *testing.T) {
	const operations = 6
	for arm := none; arm < operations; arm++ {
		for fail := none; fail < operations; fail++ {
			for flushes := range uint(1 << operations) {
				checkArmed(t, arm, fail, flushes, operations)
			}
		}
	}
}

func checkArmed(t *testing.T, arm, fail int, flushes uint, operations int) {
	t.Helper()
	d := armed(t, arm, fail, flushes&1 == 1)
	for i := range operations {
		image, pending, writes := d.Image(), d.Pending(), d.Writes()
		wanted := api.OK
		switch {
		case arm != none && i >= arm:
			wanted = api.ErrDown
		case i == fail:
			wanted = api.ErrIO
		}
		want(t, operate(d, i, flushes), wanted, "arm", arm, "fail", fail, "flushes", flushes, "operation", i)
		if wanted == api.OK {
			continue
		}
		if !bytes.Equal(d.Image(), image) || !slices.Equal(d.Pending(), pending) || d.Writes() != writes {
			t.Error("stopped, but done: arm", arm, "fail", fail, "flushes", flushes, "operation", i)
		}
	}
}

// P4.3: a stopped flush makes nothing last, a stopped write is not there behind a crash either.
func TestStoppedOperationsLeaveWhatIsDurable(t *testing.T) {
	for _, stop := range []func(*disk.Disk) api.Errno{
		func(d *disk.Disk) api.Errno { return d.Arm(0) },
		func(d *disk.Disk) api.Errno { return d.Fail(0) },
	} {
		d := loaded(t, filled(1))
		write(t, d, 0, filled(2))
		want(t, stop(d), api.OK)
		if e := d.Flush(); e == api.OK {
			t.Error("not stopped")
		}
		wantPending(t, d, 0)
		want(t, d.Crash(nil, -1, 0), api.OK)
		wantBlocks(t, d, filled(1))
		want(t, stop(d), api.OK)
		if e := d.Write(0, filled(3)); e == api.OK {
			t.Error("not stopped")
		}
		wantPending(t, d)
		want(t, d.Crash([]bool{true, true}, -1, 0), api.OK)
		wantBlocks(t, d, filled(1))
	}
}

// P4.3: one operation fails, all behind it are done.
func TestFailIsOnce(t *testing.T) {
	d := newDisk(t, 2)
	want(t, d.Fail(1), api.OK)
	write(t, d, 0, filled(1))
	want(t, d.Flush(), api.ErrIO)
	for range 20 {
		flush(t, d)
		write(t, d, 1, filled(2))
	}
	wantBlocks(t, d, append(filled(1), filled(2)...))
}

// P4.3: the power stays gone till a crash; whatever else is called does not bring it back.
func TestPowerStaysGone(t *testing.T) {
	d := newDisk(t, 2)
	d.Arm(0)
	d.Fail(1)
	want(t, d.Flush(), api.ErrDown)
	for range 5 {
		want(t, d.Write(0, filled(1)), api.ErrDown)
		want(t, d.Flush(), api.ErrDown)
		want(t, d.Arm(3), api.OK)
		want(t, d.Fail(0), api.OK)
		if b, e := d.Read(0); e != api.ErrDown || b != nil {
			t.Error(len(b), int(e))
		}
	}
	want(t, d.Crash(nil, -1, 0), api.OK)
	for range 10 {
		write(t, d, 0, filled(1))
		flush(t, d)
	}
}

// P4.3: a second Arm, a second Fail stands in the first one's place, sooner or later than that; the other one stays.
func TestArmedAgain(t *testing.T) {
	for first := range 4 {
		for done := range first + 1 {
			for second := range 6 {
				checkAgain(t, first, done, second, api.ErrDown, (*disk.Disk).Arm)
				checkAgain(t, first, done, second, api.ErrIO, (*disk.Disk).Fail)
			}
		}
	}
	d := newDisk(t, 1)
	d.Fail(1)
	d.Arm(5)
	d.Arm(2)
	for _, wanted := range []api.Errno{api.OK, api.ErrIO, api.ErrDown} {
		want(t, d.Flush(), wanted)
	}
	d = newDisk(t, 1)
	d.Arm(2)
	d.Fail(5)
	d.Fail(0)
	for _, wanted := range []api.Errno{api.ErrIO, api.OK, api.ErrDown} {
		want(t, d.Flush(), wanted)
	}
}

// checkAgain sets first, does some operations that are let through, and sets second.
func checkAgain(t *testing.T, first, done, second int, stopped api.Errno, set func(*disk.Disk, int) api.Errno) {
	t.Helper()
	d := newDisk(t, 1)
	want(t, set(d, first), api.OK)
	for range done {
		flush(t, d)
	}
	want(t, set(d, second), api.OK)
	for range second {
		want(t, d.Flush(), api.OK, first, done, second)
	}
	want(t, d.Flush(), stopped, first, done, second)
	if stopped == api.ErrIO {
		for range first + 1 {
			want(t, d.Flush(), api.OK, first, done, second)
		}
	}
}

// P4.3: a count below 0 is refused, and what is armed stays.
func TestArmBelowNought(t *testing.T) {
	for _, ops := range []int{-1, -2, math.MinInt32, math.MinInt + 1, math.MinInt} {
		d := newDisk(t, 1)
		want(t, d.Arm(ops), api.ErrArg, ops)
		want(t, d.Fail(ops), api.ErrArg, ops)
		flush(t, d)
		flush(t, d)
		d.Fail(0)
		d.Arm(2)
		want(t, d.Arm(ops), api.ErrArg, ops)
		want(t, d.Fail(ops), api.ErrArg, ops)
		for _, wanted := range []api.Errno{api.ErrIO, api.OK, api.ErrDown} {
			want(t, d.Flush(), wanted, ops)
		}
		want(t, d.Arm(ops), api.ErrArg, "without power")
		want(t, d.Fail(ops), api.ErrArg, "without power")
	}
}

// P4.3: as many as can be.
func TestArmFarAhead(t *testing.T) {
	d := newDisk(t, 1)
	want(t, d.Arm(math.MaxInt), api.OK)
	want(t, d.Fail(math.MaxInt), api.OK)
	for range 1000 {
		flush(t, d)
	}
}

// P4.3: calls that are refused, and those that are no operations, count nothing.
func TestRefusedCallsCountNothing(t *testing.T) {
	d := newDisk(t, 2)
	d.Fail(1)
	d.Arm(2)
	idle := func() {
		want(t, d.Write(-1, filled(1)), api.ErrBlock)
		want(t, d.Write(2, filled(1)), api.ErrBlock)
		want(t, d.Write(2, nil), api.ErrBlock)
		want(t, d.Write(0, nil), api.ErrArg)
		want(t, d.Write(0, make([]byte, 4097)), api.ErrArg)
		d.Read(0)
		d.Read(2)
		d.Size()
		d.Pending()
		d.Writes()
		d.Image()
		d.Copy().Flush()
		d.Arm(-1)
		d.Fail(-1)
	}
	idle()
	write(t, d, 0, filled(1))
	idle()
	want(t, d.Write(0, filled(2)), api.ErrIO)
	idle()
	want(t, d.Flush(), api.ErrDown)
	wantBlocks(t, crashed(t, d, []bool{true}, -1, 0), append(filled(1), filled(0)...))
}

// Errors: ErrBlock ahead of ErrArg, both ahead of ErrDown, that ahead of what is armed.
func TestOrderOfErrors(t *testing.T) {
	check := func(d *disk.Disk, armed api.Errno) {
		t.Helper()
		want(t, d.Write(2, nil), api.ErrBlock)
		want(t, d.Write(-1, filled(1)), api.ErrBlock)
		want(t, d.Write(1, nil), api.ErrArg)
		want(t, d.Write(1, filled(1)), armed)
		if _, e := d.Read(2); e != api.ErrBlock {
			t.Error(int(e))
		}
		if _, e := d.Read(-1); e != api.ErrBlock {
			t.Error(int(e))
		}
	}
	d := newDisk(t, 2)
	check(d, api.OK)
	d.Fail(0)
	check(d, api.ErrIO)
	d.Arm(0)
	check(d, api.ErrDown)
	check(d, api.ErrDown)
	d.Fail(0)
	check(d, api.ErrDown)
	want(t, d.Flush(), api.ErrDown)
	if _, e := d.Read(1); e != api.ErrDown {
		t.Error(int(e))
	}
}
