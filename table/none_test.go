package table_test

import (
	"testing"

	"ledgerstone/api"
	"ledgerstone/table"
	"ledgerstone/tl2"
)

// notTables are tables that Of did not answer, and none; those of which they are copies hold a and b, and have room for one more.
func notTables(t *testing.T) []*table.Table {
	t.Helper()
	y, _ := alone(t, 3, keyed("a", "b")...)
	copied := *y
	other, _ := alone(t, 4, keyed("a")...)
	*other = *y
	emptied, _ := alone(t, 3, keyed("a", "b")...)
	*emptied = table.Table{}
	var within struct{ y table.Table }
	within.y = *y
	refused, _ := table.Of(begun(t, empty(t, 1), 1), 0, 2)
	return []*table.Table{nil, {}, new(table.Table), &copied, other, emptied, &within.y, refused}
}

// P20.2, R5: each call of a table that is none: ErrNil.
func TestNoTable(t *testing.T) {
	for k, y := range notTables(t) {
		refuses(t, y, api.ErrNil, k)
		refuses(t, y, api.ErrNil, k)
	}
}

// R5: a copy by value is no table, and what is asked of it leaves the one that it is of as it was, and its transaction.
func TestCopyLeavesTheFirst(t *testing.T) {
	m := filled(t, 3, 0, keyed("a", "b")...)
	x := begun(t, m, 1)
	y := of(t, x, 0, 3)
	copied, before := *y, whole(m, x)
	refuses(t, &copied, api.ErrNil)
	if behind := whole(m, x); behind != before {
		t.Fatal("not as it was:", before, behind)
	}
	lists(t, y, keyed("a", "b")...)
	done(t, x.Abort())
	refuses(t, &copied, api.ErrNil)
	refuses(t, y, api.ErrOver)
}

// P20.2, Errors: the want of a table comes ahead of all else: its transaction is over, or can't read the cells, or they are no table.
func TestNoTableComesFirst(t *testing.T) {
	m := filled(t, 3, 0, has("b", ""), has("a", ""), has("c", ""))
	x := begun(t, m, 1)
	y := of(t, x, 0, 3)
	copied := *y
	refuses(t, &copied, api.ErrNil, "no right list")
	done(t, m.Lock(1, outsider))
	refuses(t, &copied, api.ErrNil, "a cell that another one owns")
	if x.Status() != tl2.Open {
		t.Fatal("read through the copy")
	}
	tells(t, y.Put("a", "1"), api.ErrStale)
	refuses(t, y, api.ErrOver)
	refuses(t, &copied, api.ErrNil, "failed")
}

// P20.2: a transaction that is none any more, since it was overwritten, errs as such a one: nothing panics.
func TestTransactionThatIsGone(t *testing.T) {
	y, x := alone(t, 3, keyed("a", "b")...)
	*x = tx{}
	refuses(t, y, api.ErrNil)
}
