package tests

import (
	"fmt"
	"math"
	"slices"
	"strings"
	"testing"

	"loop.example/g00379/impl"
)

const maxRows = 20

const longestId = "abcxyz012789"

func expectedRowOk(id string, until int64) bool {
	return wholeId.MatchString(id) && until >= 0 && until <= lastTime
}

func expectedTableOk(b impl.Table) bool {
	for i, r := range b.Rows {
		if !expectedRowOk(r.Id, r.Until) {
			return false
		}
		for _, ahead := range b.Rows[:i] {
			if ahead.Id >= r.Id {
				return false
			}
		}
	}
	return b.Most >= 1 && b.Most <= maxRows && int64(len(b.Rows)) <= b.Most
}

// keptRows are the Rows of a Table by their Ids: what is in it, in no order.
func keptRows(b impl.Table) map[string]int64 {
	kept := map[string]int64{}
	for _, r := range b.Rows {
		kept[r.Id] = r.Until
	}
	return kept
}

func tableWith(most int64, kept map[string]int64) impl.Table {
	var ids []string
	for id := range kept {
		ids = append(ids, id)
	}
	slices.Sort(ids)
	b := impl.Table{Most: most}
	for _, id := range ids {
		b.Rows = append(b.Rows, impl.Row{Id: id, Until: kept[id]})
	}
	return b
}

func expectedNewTable(most int64) (impl.Table, bool) {
	if most < 1 || most > maxRows {
		return impl.Table{}, false
	}
	return impl.Table{Most: most}, true
}

func expectedEntered(b impl.Table, id string, until int64) (impl.Table, int64) {
	if !expectedTableOk(b) || !expectedRowOk(id, until) {
		return impl.Table{}, 3
	}
	kept := keptRows(b)
	if _, there := kept[id]; there {
		return b, 1
	}
	kept[id] = until
	if int64(len(kept)) > b.Most {
		return b, 2
	}
	return tableWith(b.Most, kept), 0
}

func expectedHolds(b impl.Table, id string) bool {
	_, there := keptRows(b)[id]
	return there && expectedTableOk(b)
}

func expectedRemoved(b impl.Table, id string) (impl.Table, bool) {
	if !expectedTableOk(b) {
		return impl.Table{}, false
	}
	kept := keptRows(b)
	_, there := kept[id]
	delete(kept, id)
	return tableWith(b.Most, kept), there
}

func expectedSwept(b impl.Table, now int64) impl.Table {
	if !expectedTableOk(b) || now < 0 || now > lastTime {
		return impl.Table{}
	}
	kept := keptRows(b)
	for _, r := range b.Rows {
		if r.Until <= now {
			delete(kept, r.Id)
		}
	}
	return tableWith(b.Most, kept)
}

func sameTable(a, b impl.Table) bool { return a.Most == b.Most && slices.Equal(a.Rows, b.Rows) }

func wantTableOk(t *testing.T, b impl.Table, want bool) {
	t.Helper()
	if impl.TableOk(b) != want {
		t.Errorf("TableOk(%+v) = %v", b, !want)
	}
}

func wantNewTable(t *testing.T, most int64, right bool) {
	t.Helper()
	want := impl.Table{}
	if right {
		want.Most = most
	}
	if b, ok := impl.NewTable(most); ok != right || !sameTable(b, want) || impl.TableOk(b) != right {
		t.Errorf("NewTable(%d) = %+v, %v", most, b, ok)
	}
}

func wantEntered(t *testing.T, b impl.Table, id string, until int64, want impl.Table, code int64) {
	t.Helper()
	if got, told := impl.Entered(b, id, until); told != code || !sameTable(got, want) {
		t.Errorf("Entered(%+v, %q, %d) = %+v, %d, not %+v, %d", b, id, until, got, told, want, code)
	}
}

func wantHolds(t *testing.T, b impl.Table, id string, want bool) {
	t.Helper()
	if impl.Holds(b, id) != want {
		t.Errorf("Holds(%+v, %q) = %v", b, id, !want)
	}
}

func wantRemoved(t *testing.T, b impl.Table, id string, want impl.Table, was bool) {
	t.Helper()
	if got, ok := impl.Removed(b, id); ok != was || !sameTable(got, want) {
		t.Errorf("Removed(%+v, %q) = %+v, %v, not %+v, %v", b, id, got, ok, want, was)
	}
}

func wantSwept(t *testing.T, b impl.Table, now int64, want impl.Table) {
	t.Helper()
	if got := impl.Swept(b, now); !sameTable(got, want) {
		t.Errorf("Swept(%+v, %d) = %+v, not %+v", b, now, got, want)
	}
}

// table lays Rows down as they are told, right or not: an Id, a blank and its Until each.
func table(most int64, rows ...string) impl.Table {
	b := impl.Table{Most: most}
	for _, r := range rows {
		id, until, _ := strings.Cut(r, " ")
		var n int64
		if _, err := fmt.Sscan(until, &n); err != nil {
			panic(err)
		}
		b.Rows = append(b.Rows, impl.Row{Id: id, Until: n})
	}
	return b
}

// countedTable has so many Rows, c10 first, each Until above the one ahead.
func countedTable(most int64, rows int) impl.Table {
	b := impl.Table{Most: most}
	for i := range rows {
		b.Rows = append(b.Rows, impl.Row{Id: fmt.Sprintf("c%02d", 10+i), Until: int64(100 + i)})
	}
	return b
}

// withRow is the Table with one of its Rows, which it need not have been right with, in place of another.
func withRow(b impl.Table, at int, r impl.Row) impl.Table {
	rows := slices.Clone(b.Rows)
	rows[at] = r
	return impl.Table{Most: b.Most, Rows: rows}
}

// tableIds are the Ids of a Table, those beside them, and texts that are no Id.
func tableIds(b impl.Table) []string {
	ids := append(noIds(), "a", "z", "0", "9", "a0", "c10", "c1", "c100", "zz", longestId)
	for _, r := range b.Rows {
		ids = append(ids, r.Id, r.Id+"0", r.Id+"a", "a"+r.Id, strings.ToUpper(r.Id))
	}
	slices.Sort(ids)
	return slices.Compact(ids)
}

func noIds() []string {
	return []string{
		"", " ", "A", "Z", "aB", "Ab", "a b", " a", "a ", "a\n", "\na", "-", "a-1", "a.1", "a_1", "`", "{", "/", ":", "@", "[", "\x00", "a\x00", "\xff", "a\xff", "\u00e9",
		strings.Repeat("a", 13), longestId + "0", strings.Repeat("0", 13), strings.Repeat("a", 256+1), strings.Repeat("a", 256+12), strings.Repeat("a", 65536+1),
	}
}

// tableTimes are times by both ends and between, and the Untils of the Tables here, and those beside them.
func tableTimes(b impl.Table) []int64 {
	times := []int64{0, 1, 49, 50, 51, 70, 99, 100, 101, 110, 119, 120, 200, 1 << 31, lastTime - 1, lastTime}
	for _, r := range b.Rows {
		times = append(times, max(0, min(r.Until, lastTime)), max(0, min(r.Until-1, lastTime)), min(lastTime, max(r.Until, 0)+1))
	}
	slices.Sort(times)
	return slices.Compact(times)
}

// checkTable holds all functions to what is expected of them, at all Ids and times that may matter here, wrong ones among them.
func checkTable(t *testing.T, b impl.Table) {
	t.Helper()
	wantTableOk(t, b, expectedTableOk(b))
	untils := append(tableTimes(b), -1, lastTime+1, math.MinInt64, math.MaxInt64)
	for _, id := range tableIds(b) {
		wantHolds(t, b, id, expectedHolds(b, id))
		want, was := expectedRemoved(b, id)
		wantRemoved(t, b, id, want, was)
		for _, until := range untils {
			want, code := expectedEntered(b, id, until)
			wantEntered(t, b, id, until, want, code)
		}
	}
	for _, now := range untils {
		wantSwept(t, b, now, expectedSwept(b, now))
	}
	if t.Failed() {
		t.FailNow()
	}
}

// wantNoTable holds what is told of a Table that is not right, whatever else is right.
func wantNoTable(t *testing.T, b impl.Table) {
	t.Helper()
	wantTableOk(t, b, false)
	for _, id := range tableIds(b) {
		wantHolds(t, b, id, false)
		wantRemoved(t, b, id, impl.Table{}, false)
		for _, until := range []int64{0, 50, lastTime, -1, lastTime + 1} {
			wantEntered(t, b, id, until, impl.Table{}, impl.TbBad)
		}
	}
	for _, now := range append(tableTimes(b), noTimes()...) {
		wantSwept(t, b, now, impl.Table{})
	}
	checkTable(t, b)
}

func TestTableNumbers(t *testing.T) {
	if impl.MaxRows != maxRows || impl.TbOk != 0 || impl.TbThere != 1 || impl.TbFull != 2 || impl.TbBad != 3 {
		t.Error("a constant of the chapter is another one")
	}
}

func TestNewTables(t *testing.T) {
	for most := int64(-30); most <= 60; most++ {
		wantNewTable(t, most, most >= 1 && most <= 20)
	}
	for _, most := range append(farNumbers(), 0, -1, -20, maxRows+1, 1<<32+20, -1<<32+20, 1<<62+1, math.MinInt64+20, math.MaxInt64-20) {
		wantNewTable(t, most, false)
	}
	for most := int64(1); most <= maxRows; most++ {
		b, _ := impl.NewTable(most)
		checkTable(t, b)
		if len(b.Rows) != 0 {
			t.Errorf("NewTable(%d) has Rows: %+v", most, b)
		}
	}
}

func TestTablesThatAreRight(t *testing.T) {
	for _, b := range []impl.Table{
		table(1), table(20), table(1, "a 0"), table(1, "z 3155759999"), table(1, longestId+" 5"), table(2, "a 1"), table(2, "a 1", "b 1"), table(2, "a 2", "b 1"), table(2, "a 1", "b 2"),
		table(3, "0 5", "9 4", "a 3"), table(3, "a 5", "a0 5", "aa 5"), table(3, "a 1", "aaaaaaaaaaaa 1", "b 1"), table(4, "1 7", "10 6", "2 5", "9 4"), table(20, "r1 70", "r2 50"),
		{Most: 1, Rows: []impl.Row{}}, countedTable(20, 20), countedTable(20, 19), countedTable(20, 0), countedTable(7, 7),
	} {
		wantTableOk(t, b, true)
		checkTable(t, b)
	}
	for most := range 25 {
		for rows := range 25 {
			wantTableOk(t, countedTable(int64(most), rows), most >= 1 && most <= 20 && rows <= most)
		}
	}
}

func TestTablesOfAWrongSize(t *testing.T) {
	for _, most := range append(farNumbers(), 0, -1, -2, -20, maxRows+1, maxRows+2, math.MinInt64+20, 1<<32+20) {
		wantNoTable(t, impl.Table{Most: most})
		wantNoTable(t, countedTable(most, 1))
	}
	for _, b := range []impl.Table{countedTable(1, 2), countedTable(2, 3), countedTable(19, 20), countedTable(20, 21), countedTable(1, 20), countedTable(20, 40), countedTable(21, 21), countedTable(0, 1)} {
		wantNoTable(t, b)
	}
}

func TestTablesWithAWrongRow(t *testing.T) {
	for _, rows := range []int{1, 2, 3, 5, 20} {
		right := countedTable(20, rows)
		for _, at := range []int{0, rows / 2, rows - 1} {
			for _, id := range noIds() {
				wantTableOk(t, withRow(right, at, impl.Row{Id: id, Until: 5}), false)
			}
			for _, until := range append(noTimes(), farNumbers()...) {
				b := withRow(right, at, impl.Row{Id: right.Rows[at].Id, Until: until})
				wantTableOk(t, b, until >= 0 && until <= lastTime)
			}
			wantNoTable(t, withRow(right, at, impl.Row{}))
			wantNoTable(t, withRow(right, at, impl.Row{Id: "c 1", Until: 5}))
			wantNoTable(t, withRow(right, at, impl.Row{Id: right.Rows[at].Id + "0123456789", Until: 5}))
			wantNoTable(t, withRow(right, at, impl.Row{Id: right.Rows[at].Id, Until: -1}))
			wantNoTable(t, withRow(right, at, impl.Row{Id: right.Rows[at].Id, Until: lastTime + 1}))
			wantNoTable(t, withRow(right, at, impl.Row{Id: "C", Until: math.MinInt64}))
		}
	}
	// Ids that rise, but for one that is not right.
	for _, b := range []impl.Table{
		table(3, " 1"), table(3, "0 1", "A 1", "a 1"), table(3, "a 1", "b- 1", "c 1"), table(3, "a 1", "b 1", "{ 1"), {Most: 3, Rows: []impl.Row{{Id: "\n", Until: 1}, {Id: "a", Until: 1}}},
	} {
		wantNoTable(t, b)
	}
}

func TestTablesWhoseIdsDoNotRise(t *testing.T) {
	for _, b := range []impl.Table{
		table(2, "a 1", "a 1"), table(2, "a 1", "a 2"), table(2, "b 1", "a 2"), table(3, "a 1", "b 1", "b 1"), table(3, "a 1", "a 1", "b 1"), table(3, "a 1", "c 1", "b 1"), table(3, "c 1", "b 1", "a 1"),
		table(3, "b 1", "c 1", "a 1"), table(3, "a 1", "b 1", "a 1"), table(2, "a 1", "9 1"), table(2, "10 1", "1 1"), table(2, "2 1", "10 1"), table(2, "aa 1", "a 1"), table(20, "r2 50", "r1 70"),
	} {
		wantNoTable(t, b)
	}
	full := countedTable(20, 20)
	for at := 1; at < 20; at++ {
		wantTableOk(t, withRow(full, at, full.Rows[at-1]), false)
		wantTableOk(t, withRow(full, at-1, full.Rows[at]), false)
		swapped := withRow(withRow(full, at, full.Rows[at-1]), at-1, full.Rows[at])
		wantTableOk(t, swapped, false)
	}
	// Of four Ids, as they come: right where they rise.
	eachList([]string{"a", "b", "b0", "c"}, 4, func(ids []string) {
		b := impl.Table{Most: 4}
		for _, id := range ids {
			b.Rows = append(b.Rows, impl.Row{Id: id, Until: 7})
		}
		rises := slices.IsSorted(ids) && len(slices.Compact(slices.Clone(ids))) == len(ids)
		wantTableOk(t, b, rises)
		wantHolds(t, b, "b", rises && slices.Contains(ids, "b"))
	})
}

func TestTablesWithSeveralThingsWrong(t *testing.T) {
	for _, b := range []impl.Table{
		{}, {Most: -1, Rows: []impl.Row{{Id: "B", Until: -1}, {Id: "A", Until: -1}}}, table(0, "a 1", "a 1"), table(21, "b 1", "a -1"), table(1, "b 1", "a 1"), table(1, "A 1", "B 1"), table(2, "a -1", "a -1", "a -1"),
		{Most: math.MaxInt64, Rows: []impl.Row{{}, {}}}, {Most: math.MinInt64, Rows: countedTable(1, 30).Rows},
	} {
		wantNoTable(t, b)
	}
	for _, id := range noIds() {
		for _, until := range noTimes() {
			wantEntered(t, table(1), id, until, impl.Table{}, impl.TbBad)
			wantEntered(t, table(1, "a 5"), id, until, impl.Table{}, impl.TbBad)
			wantEntered(t, table(0), id, until, impl.Table{}, impl.TbBad)
		}
	}
}

func TestEnteredInEveryOrder(t *testing.T) {
	rows := []impl.Row{{Id: "9", Until: 40}, {Id: "a", Until: 20}, {Id: "a0", Until: 50}, {Id: "b", Until: 10}, {Id: "r1", Until: 20}}
	want := impl.Table{Most: 5, Rows: rows}
	eachOrder(rows, func(order []impl.Row) {
		b, ok := impl.NewTable(5)
		for i, r := range order {
			var code int64
			b, code = impl.Entered(b, r.Id, r.Until)
			if !ok || code != impl.TbOk || !impl.TableOk(b) || len(b.Rows) != i+1 {
				t.Fatalf("Entered as %+v: %+v, %d", order, b, code)
			}
			for j, other := range order {
				wantHolds(t, b, other.Id, j <= i)
			}
		}
		if !sameTable(b, want) {
			t.Fatalf("Entered as %+v: %+v", order, b)
		}
	})
}

func TestEnteredUpToTheMost(t *testing.T) {
	for most := int64(1); most <= maxRows; most++ {
		for _, falling := range []bool{false, true} {
			all := countedTable(most, int(most))
			order := slices.Clone(all.Rows)
			if falling {
				slices.Reverse(order)
			}
			b, _ := impl.NewTable(most)
			for _, r := range order {
				wantEntered(t, b, r.Id, -1, impl.Table{}, impl.TbBad)
				b, _ = impl.Entered(b, r.Id, r.Until)
			}
			if !sameTable(b, all) {
				t.Errorf("%+v is not %+v", b, all)
			}
			for _, id := range []string{"a", "c0", "c100", "c1z", "z", "0", longestId} {
				wantEntered(t, b, id, 5, all, impl.TbFull)
				wantHolds(t, b, id, false)
			}
			for _, r := range all.Rows {
				wantEntered(t, b, r.Id, r.Until, all, impl.TbThere)
				wantEntered(t, b, r.Id, 5, all, impl.TbThere)
			}
			// What is not right is told ahead of both.
			wantEntered(t, b, "c10", -1, impl.Table{}, impl.TbBad)
			wantEntered(t, b, "c10", lastTime+1, impl.Table{}, impl.TbBad)
			wantEntered(t, b, "a", -1, impl.Table{}, impl.TbBad)
			wantEntered(t, b, "C10", 5, impl.Table{}, impl.TbBad)
		}
	}
}

func TestEnteredOneByOne(t *testing.T) {
	for _, c := range []struct {
		b     impl.Table
		id    string
		until int64
		want  impl.Table
		code  int64
	}{
		{table(2), "r2", 50, table(2, "r2 50"), 0}, {table(2, "r2 50"), "r1", 70, table(2, "r1 70", "r2 50"), 0}, {table(2, "r2 50"), "r3", 70, table(2, "r2 50", "r3 70"), 0},
		{table(3, "a 1", "c 1"), "b", 1, table(3, "a 1", "b 1", "c 1"), 0}, {table(3, "a 1", "c 1"), "a0", 9, table(3, "a 1", "a0 9", "c 1"), 0}, {table(3, "a 1", "c 1"), "9", 0, table(3, "9 0", "a 1", "c 1"), 0},
		{table(1), "a", 0, table(1, "a 0"), 0}, {table(1), "0", lastTime, table(1, "0 3155759999"), 0}, {table(1), longestId, 5, table(1, longestId+" 5"), 0}, {table(1), "zzzzzzzzzzzz", 5, table(1, "zzzzzzzzzzzz 5"), 0},
		{table(2, "r2 50"), "r2", 50, table(2, "r2 50"), 1}, {table(2, "r2 50"), "r2", 70, table(2, "r2 50"), 1}, {table(2, "r2 50"), "r2", 0, table(2, "r2 50"), 1}, {table(2, "r1 70", "r2 50"), "r1", 9, table(2, "r1 70", "r2 50"), 1},
		{table(1, "a 5"), "a", 5, table(1, "a 5"), 1}, {table(1, "a 5"), "a", lastTime, table(1, "a 5"), 1}, {table(1, "a 5"), "b", 5, table(1, "a 5"), 2}, {table(1, "a 5"), "9", 5, table(1, "a 5"), 2}, {table(2, "r1 70", "r2 50"), "r3", 70, table(2, "r1 70", "r2 50"), 2},
		{table(2), "", 50, impl.Table{}, 3}, {table(2), "R2", 50, impl.Table{}, 3}, {table(2), "r2", -1, impl.Table{}, 3}, {table(2), "r2", lastTime + 1, impl.Table{}, 3}, {table(2), longestId + "0", 5, impl.Table{}, 3},
		{table(0), "r2", 50, impl.Table{}, 3}, {table(21), "r2", 50, impl.Table{}, 3}, {table(2, "b 1", "a 1"), "a", 50, impl.Table{}, 3}, {table(1, "a 1", "b 1"), "c", 50, impl.Table{}, 3},
	} {
		wantEntered(t, c.b, c.id, c.until, c.want, c.code)
		wantHolds(t, c.want, c.id, c.code < 2)
	}
	for _, no := range append(noTimes(), math.MinInt64, math.MaxInt64, -1, lastTime+1) {
		for _, b := range []impl.Table{table(1), table(1, "a 5"), table(20, "b 0", "c 9")} {
			wantEntered(t, b, "a", no, impl.Table{}, impl.TbBad)
			wantSwept(t, b, no, impl.Table{})
		}
	}
	for _, id := range noIds() {
		for _, b := range []impl.Table{table(1), table(1, "a 5"), table(20, "b 0", "c 9")} {
			wantEntered(t, b, id, 5, impl.Table{}, impl.TbBad)
			wantHolds(t, b, id, false)
			wantRemoved(t, b, id, b, false)
		}
	}
}

// Each sign, alone and at the end of an Id, comes to stand where its byte does.
func TestEnteredIdsOfEachSign(t *testing.T) {
	right := 0
	for c := range 256 {
		ok := strings.Contains("abcdefghijklmnopqrstuvwxyz0123456789", oneByte(c))
		if ok {
			right++
		}
		for _, id := range []string{oneByte(c), "m" + oneByte(c), oneByte(c) + "m", "mmmmmm" + oneByte(c) + "mmmmm", strings.Repeat(oneByte(c), 12)} {
			b := table(20, "5 1", "l 2", "m5 3", "mmm 4")
			want, code := expectedEntered(b, id, 9)
			wantEntered(t, b, id, 9, want, code)
			if (code == impl.TbBad) == ok {
				t.Errorf("%q: %d", id, code)
			}
			wantHolds(t, want, id, ok)
		}
		wantEntered(t, table(3), strings.Repeat(oneByte(c), 13), 9, impl.Table{}, impl.TbBad)
	}
	if right != 36 {
		t.Errorf("%d signs", right)
	}
	for length := range 30 {
		id := strings.Repeat("a", length)
		want := table(2, "a 1")
		switch {
		case length == 1:
			wantEntered(t, want, id, 9, want, impl.TbThere)
		case length >= 2 && length <= 12:
			wantEntered(t, want, id, 9, table(2, "a 1", id+" 9"), impl.TbOk)
		default:
			wantEntered(t, want, id, 9, impl.Table{}, impl.TbBad)
		}
	}
}

func TestRemovedAnywhere(t *testing.T) {
	for rows := range 21 {
		for _, most := range []int64{int64(max(rows, 1)), 20} {
			b := countedTable(most, rows)
			for at, r := range b.Rows {
				want := impl.Table{Most: most, Rows: slices.Delete(slices.Clone(b.Rows), at, at+1)}
				wantRemoved(t, b, r.Id, want, true)
				got, _ := impl.Removed(b, r.Id)
				for _, other := range b.Rows {
					wantHolds(t, got, other.Id, other.Id != r.Id)
				}
				wantRemoved(t, got, r.Id, want, false)
				wantEntered(t, got, r.Id, r.Until, b, impl.TbOk)
			}
			for _, id := range []string{"a", "c1", "c100", "z", "", "C10", "c10 ", longestId, longestId + "0"} {
				wantRemoved(t, b, id, b, false)
			}
		}
	}
	for _, c := range []struct {
		b    impl.Table
		id   string
		want impl.Table
		was  bool
	}{
		{table(1), "a", table(1), false}, {table(1, "a 0"), "a", table(1), true}, {table(1, "a 0"), "b", table(1, "a 0"), false}, {table(2, "r1 70", "r2 50"), "r1", table(2, "r2 50"), true}, {table(2, "r1 70", "r2 50"), "r2", table(2, "r1 70"), true},
		{table(3, "a 1", "b 1", "c 1"), "b", table(3, "a 1", "c 1"), true}, {table(3, "a 1", "aa 1", "aaa 1"), "aa", table(3, "a 1", "aaa 1"), true}, {table(1, longestId+" 3155759999"), longestId, table(1), true},
		{table(0, "a 1"), "a", impl.Table{}, false}, {table(2, "b 1", "a 1"), "a", impl.Table{}, false}, {table(1, "a 1", "b 1"), "a", impl.Table{}, false}, {table(1, "a -1"), "a", impl.Table{}, false}, {impl.Table{}, "a", impl.Table{}, false},
	} {
		wantRemoved(t, c.b, c.id, c.want, c.was)
	}
}

func TestSweptByANow(t *testing.T) {
	mixed := table(6, "a 50", "b 20", "c 70", "d 20", "e 50", "f 90")
	for _, c := range []struct {
		b    impl.Table
		now  int64
		want impl.Table
	}{
		{table(2, "r1 70", "r2 50"), 49, table(2, "r1 70", "r2 50")}, {table(2, "r1 70", "r2 50"), 50, table(2, "r1 70")}, {table(2, "r1 70", "r2 50"), 51, table(2, "r1 70")}, {table(2, "r1 70", "r2 50"), 69, table(2, "r1 70")},
		{table(2, "r1 70", "r2 50"), 70, table(2)}, {table(2, "r1 70", "r2 50"), 71, table(2)}, {table(2, "r1 50", "r2 70"), 50, table(2, "r2 70")},
		{mixed, 0, mixed}, {mixed, 19, mixed}, {mixed, 20, table(6, "a 50", "c 70", "e 50", "f 90")}, {mixed, 49, table(6, "a 50", "c 70", "e 50", "f 90")}, {mixed, 50, table(6, "c 70", "f 90")}, {mixed, 70, table(6, "f 90")}, {mixed, 89, table(6, "f 90")}, {mixed, 90, table(6)}, {mixed, lastTime, table(6)},
		{table(3, "a 5", "b 5", "c 5"), 4, table(3, "a 5", "b 5", "c 5")}, {table(3, "a 5", "b 5", "c 5"), 5, table(3)}, {table(3, "a 5", "b 5", "c 5"), 6, table(3)},
		{table(1), 0, table(1)}, {table(20), lastTime, table(20)}, {table(1, "a 0"), 0, table(1)}, {table(1, "a 1"), 0, table(1, "a 1")}, {table(1, "a 1"), 1, table(1)},
		{table(2, "a 3155759999", "b 3155759998"), lastTime - 1, table(2, "a 3155759999")}, {table(2, "a 3155759999", "b 3155759998"), lastTime - 2, table(2, "a 3155759999", "b 3155759998")}, {table(2, "a 3155759999", "b 3155759998"), lastTime, table(2)},
		{table(1, "a 5"), -1, impl.Table{}}, {table(1, "a 5"), lastTime + 1, impl.Table{}}, {table(1), -1, impl.Table{}}, {table(0), 5, impl.Table{}}, {table(2, "b 9", "a 9"), 5, impl.Table{}}, {table(2, "a 9", "b -1"), 5, impl.Table{}}, {table(1, "a 9", "b 1"), 5, impl.Table{}},
	} {
		wantSwept(t, c.b, c.now, c.want)
	}
	for _, no := range noTimes() {
		wantSwept(t, mixed, no, impl.Table{})
		wantSwept(t, countedTable(20, 20), no, impl.Table{})
	}
}

// Rows of all orders of Until, and of one Until, are swept alike, and stay in the order of their Ids.
func TestSweptInEveryOrder(t *testing.T) {
	eachList([]int64{0, 3, 4, 7}, 5, func(untils []int64) {
		b := impl.Table{Most: 5}
		for i, until := range untils {
			b.Rows = append(b.Rows, impl.Row{Id: idNumber(i), Until: until})
		}
		for now := int64(0); now <= 8; now++ {
			wantSwept(t, b, now, expectedSwept(b, now))
		}
	})
	for seed := range 3000 {
		next := dice(seed)
		b := countedTable(20, 20)
		for i := range b.Rows {
			b.Rows[i].Until = int64(next(30))
		}
		for now := int64(0); now <= 30; now++ {
			wantSwept(t, b, now, expectedSwept(b, now))
		}
		if t.Failed() {
			t.FailNow()
		}
	}
}

// A keeping is what should be held by now: the program's Table beside the Rows that were let in and not yet out.
type keeping struct {
	table impl.Table
	kept  map[string]int64
}

func (k *keeping) enter(t *testing.T, id string, until int64) int64 {
	_, there := k.kept[id]
	full := int64(len(k.kept)) == k.table.Most
	b, code := impl.Entered(k.table, id, until)
	want := int64(0)
	switch {
	case there:
		want = 1
	case full:
		want = 2
	default:
		k.kept[id] = until
	}
	if code != want {
		t.Fatalf("Entered(%+v, %q, %d) = %+v, %d", k.table, id, until, b, code)
	}
	k.table = b
	return code
}

func (k *keeping) remove(t *testing.T, id string) {
	_, there := k.kept[id]
	b, was := impl.Removed(k.table, id)
	if was != there {
		t.Fatalf("Removed(%+v, %q) = %+v, %v", k.table, id, b, was)
	}
	delete(k.kept, id)
	k.table = b
}

func (k *keeping) sweep(now int64) {
	for id, until := range k.kept {
		if until <= now {
			delete(k.kept, id)
		}
	}
	k.table = impl.Swept(k.table, now)
}

// holds asks for each Id whether it is held, and for each Row whether it is as it was let in.
func (k *keeping) holds(t *testing.T, ids []string) {
	for _, id := range ids {
		if _, there := k.kept[id]; impl.Holds(k.table, id) != there {
			t.Fatalf("Holds(%+v, %q) = %v", k.table, id, !there)
		}
	}
	if !impl.TableOk(k.table) || !sameTable(k.table, tableWith(k.table.Most, k.kept)) {
		t.Fatalf("%v became %+v", k.kept, k.table)
	}
}

// Promise 16: what was Entered is held till it is Removed or Swept.
func TestWhatWasEnteredIsHeldTillItIsRemovedOrSwept(t *testing.T) {
	told := map[int64]int{}
	for seed := range 1500 {
		next := dice(seed)
		ids := []string{"a", "z", "0", longestId}
		for range 1 + next(30) {
			ids = append(ids, strewnText(next, "abz019", 1+next(12)))
		}
		b, _ := impl.NewTable(int64(1 + next(maxRows)))
		k := keeping{b, map[string]int64{}}
		now := int64(0)
		for range 60 {
			id := ids[next(len(ids))]
			switch next(8) {
			case 0, 1:
				k.remove(t, id)
			case 2:
				now += int64(next(20))
				k.sweep(now)
			default:
				told[k.enter(t, id, now+int64(next(100)))]++
			}
			k.holds(t, ids)
		}
		k.sweep(lastTime)
		k.holds(t, ids)
		if len(k.table.Rows) != 0 {
			t.Fatalf("the last time leaves %+v", k.table)
		}
	}
	for code := range int64(3) {
		if told[code] < 3000 {
			t.Errorf("only %d were told %d", told[code], code)
		}
	}
}

// layTable lays each Id, and the Rows, ahead of spare room.
func layTable(b impl.Table) (impl.Table, func(t *testing.T)) {
	var texts []string
	var buffers [][]byte
	whole := make([]impl.Row, 0, len(b.Rows)+4)
	for _, r := range b.Rows {
		id, buffer := laid(r.Id)
		texts, buffers = append(texts, r.Id), append(buffers, buffer)
		whole = append(whole, impl.Row{Id: id, Until: r.Until})
	}
	given := impl.Table{Most: b.Most, Rows: whole}
	whole = append(whole, impl.Row{Id: "spare", Until: 7}, impl.Row{Id: "room", Until: 8}, impl.Row{Id: "spare", Until: 9})
	before := slices.Clone(whole)
	return given, func(t *testing.T) {
		t.Helper()
		if !sameTable(given, b) || !slices.Equal(whole, before) {
			t.Errorf("the Table %+v became %+v, and what is behind it %+v", b, given, whole)
		}
		buffersStay(t, texts, buffers)
	}
}

// wantTableApart holds that no Id and no list of the answers lie in one another, or in the texts and the Table given.
func wantTableApart(t *testing.T, given impl.Table, texts []string, answers ...impl.Table) {
	t.Helper()
	for _, r := range given.Rows {
		texts = append(texts, r.Id)
	}
	lists := [][]impl.Row{given.Rows}
	for i, b := range answers {
		for _, list := range lists {
			if sharesRoom(b.Rows, list) {
				t.Errorf("answer %d, %+v, lies in another list", i, b)
			}
		}
		lists = append(lists, b.Rows)
		for _, r := range b.Rows {
			for _, text := range texts {
				if sharesMemory(r.Id, text) {
					t.Errorf("of answer %d, %+v, the Id %q lies in another text", i, b, r.Id)
				}
			}
			texts = append(texts, r.Id)
		}
	}
}

// spoilRows writes over all that a Table has, and over the spare room behind it.
func spoilRows(b impl.Table) {
	rows := b.Rows[:cap(b.Rows)]
	for i := range rows {
		rows[i] = impl.Row{Id: "CHANGED", Until: -1}
	}
}

// Promise 21 for chapter 16.
func TestTableAnswersAreNewMemoryAndArgumentsStay(t *testing.T) {
	given := []impl.Table{{}, table(1), table(20), table(1, "a 0"), table(2, "r1 70", "r2 50"), table(3, "a 5", "b 5", "c 5"), table(7, "a 50", "b 20", "c 70", "d 20", "e 50", "f 90"), countedTable(20, 20), countedTable(20, 19), table(2, "b 1", "a 1"), table(1, "A 1", "b 1")}
	for _, b := range given {
		ids := []string{"a", "a0", "b", "c", "c10", "c15", "c19", "r1", "r2", "zz", "A", ""}
		for _, id := range ids {
			for _, now := range []int64{0, 5, 50, 105, lastTime, -1} {
				one, stays := layTable(b)
				word, buffer := laid(id)
				impl.TableOk(one)
				impl.Holds(one, word)
				entered, _ := impl.Entered(one, word, 60)
				again, _ := impl.Entered(one, word, 60)
				removed, _ := impl.Removed(one, word)
				removedAgain, _ := impl.Removed(one, word)
				swept, sweptAgain := impl.Swept(one, now), impl.Swept(one, now)
				fresh, _ := impl.NewTable(b.Most)
				freshAgain, _ := impl.NewTable(b.Most)
				answers := []impl.Table{entered, again, removed, removedAgain, swept, sweptAgain, fresh, freshAgain}
				wantTableApart(t, one, []string{word}, answers...)
				stays(t)
				// What is changed in one answer changes nothing else.
				for i, answer := range answers {
					others := slices.Clone(answers[i+1:])
					for j := range others {
						others[j].Rows = slices.Clone(others[j].Rows)
					}
					spoilRows(answer)
					for j, other := range answers[i+1:] {
						if !sameTable(other, others[j]) {
							t.Errorf("%+v became %+v", others[j], other)
						}
					}
				}
				stays(t)
				if string(buffer) != id+"spare room" {
					t.Errorf("the Id %q became %q", id, buffer)
				}
				if t.Failed() {
					t.FailNow()
				}
			}
		}
	}
}

// A Table that Rows are entered in twice over keeps each time only its own.
func TestTablesFromOneTableAreApart(t *testing.T) {
	first, _ := impl.NewTable(20)
	for i := range 10 {
		first, _ = impl.Entered(first, fmt.Sprintf("m%d", i), int64(i))
	}
	for _, id := range []string{"a", "m", "m00", "m5z", "m90", "z"} {
		one, _ := impl.Entered(first, id, 100)
		other, _ := impl.Entered(first, id+"y", 200)
		wantHolds(t, one, id, true)
		wantHolds(t, one, id+"y", false)
		wantHolds(t, other, id, false)
		wantHolds(t, other, id+"y", true)
		wantHolds(t, first, id, false)
		wantHolds(t, first, id+"y", false)
		less, _ := impl.Removed(one, "m5")
		wantHolds(t, one, "m5", true)
		wantHolds(t, less, "m5", false)
		later := impl.Swept(one, 8)
		wantHolds(t, one, "m8", true)
		wantHolds(t, later, "m8", false)
		wantHolds(t, later, "m9", true)
		wantHolds(t, later, id, true)
	}
}

// Promise 21 for chapter 16: an answer to whatever is given, and the same one each time.
func TestTableFunctionsAnswerEverywhere(t *testing.T) {
	right := 0
	for seed := range 400 {
		next := dice(seed)
		// Mostly what is right, so that each thing comes to be the only wrong one.
		kept := map[string]int64{}
		for range next(22) {
			kept[strewnText(next, "abz019", 1+next(3))] = []int64{0, lastTime, int64(next(lastTime)), int64(next(200))}[next(4)]
		}
		b := tableWith(int64(max(1, len(kept)+next(4))), kept)
		for range next(3) {
			at := next(len(b.Rows) + 1)
			switch next(5) {
			case 0:
				b.Most = []int64{farNumber(next), int64(next(24)) - 2}[next(2)]
			case 1:
				b.Rows = slices.Insert(b.Rows, at, impl.Row{Id: noIds()[next(len(noIds()))], Until: int64(next(200))})
			case 2:
				b.Rows = slices.Insert(b.Rows, at, impl.Row{Id: strewnText(next, "abz019", 3), Until: int64(next(200))})
			case 3:
				if at < len(b.Rows) {
					b.Rows[at].Until = farNumber(next)
				}
			case 4:
				if at < len(b.Rows) {
					b.Rows[at] = b.Rows[next(len(b.Rows))]
				}
			}
		}
		if expectedTableOk(b) {
			right++
		}
		id := []string{noIds()[next(len(noIds()))], strewnText(next, "abz019", 3)}[next(2)]
		far := farNumber(next)
		for range 2 {
			checkTable(t, b)
			want, code := expectedEntered(b, id, far)
			wantEntered(t, b, id, far, want, code)
			wantSwept(t, b, far, expectedSwept(b, far))
			fresh, ok := expectedNewTable(far)
			if got, is := impl.NewTable(far); is != ok || !sameTable(got, fresh) {
				t.Errorf("NewTable(%d) = %+v, %v", far, got, is)
			}
		}
	}
	if right < 100 || right > 350 {
		t.Errorf("%d were right", right)
	}
}
