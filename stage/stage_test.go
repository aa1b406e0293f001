package stage

import (
	"math"
	"slices"
	"testing"

	"moniker/api"
)

// must builds a table that has no error.
func must[V comparable](t *testing.T, rows []Row[V], other V) *Table[V] {
	t.Helper()
	x, e := Build(rows, other)
	if e != api.OK || x == nil {
		t.Fatalf("Build of %d rows: %v, %d", len(rows), x != nil, e)
	}
	return x
}

// flat has each code point's value, put down one by one.
func flat[V comparable](rows []Row[V], other V) []V {
	out := make([]V, 0x110000)
	for i := range out {
		out[i] = other
	}
	for _, row := range rows {
		for r := row.From; r <= row.To; r++ {
			out[r] = row.V
		}
	}
	return out
}

// runs are the fewest rows, by each code point's value.
func runs[V comparable](values []V, other V) []Row[V] {
	var out []Row[V]
	for i, v := range values {
		if v == other {
			continue
		}
		if i > 0 && values[i-1] == v {
			out[len(out)-1].To++
			continue
		}
		out = append(out, Row[V]{rune(i), rune(i), v})
	}
	return out
}

// unlike counts the unlike blocks, by each code point's value.
func unlike[V comparable](values []V) int {
	seen := map[[256]V]bool{}
	for i := 0; i < len(values); i += 256 {
		seen[[256]V(values[i:])] = true
	}
	return len(seen)
}

// tells holds a table's Get at all code points, and beyond them, against their values.
func tells[V comparable](t *testing.T, x *Table[V], values []V, other V) {
	t.Helper()
	for i, v := range values {
		if got := x.Get(rune(i)); got != v {
			t.Fatalf("Get(%X) = %v, want %v", i, got, v)
		}
	}
	for _, r := range []rune{math.MinInt32, math.MinInt32 + 65, -0x110000, -256, -191, -1, 0x110000, 0x110041, 0x1100FF, 0x7FFF0041, math.MaxInt32} {
		if got := x.Get(r); got != other {
			t.Fatalf("Get(%d) = %v, want the other one", r, got)
		}
	}
}

// holds tells whether all promises hold of the table of some rows.
func holds[V comparable](t *testing.T, rows []Row[V], other V) {
	t.Helper()
	x := must(t, rows, other)
	values := flat(rows, other)
	tells(t, x, values, other)
	fewest := x.Rows()
	if want := runs(values, other); !slices.Equal(fewest, want) {
		t.Fatalf("Rows: %.200v, want %.200v", fewest, want)
	}
	if got, want := x.Blocks(), unlike(values); got != want {
		t.Fatalf("Blocks() = %d, want %d", got, want)
	}
	if x.Blocks() > 3*len(rows)+1 || x.Blocks() > 3*len(fewest)+1 {
		t.Fatalf("%d blocks of %d rows, %d of them needed", x.Blocks(), len(rows), len(fewest))
	}
	again := must(t, fewest, other)
	tells(t, again, values, other)
	if again.Blocks() != x.Blocks() || !slices.Equal(again.Rows(), fewest) {
		t.Fatal("what Rows tells builds another table")
	}
}

func TestP5_1Example(t *testing.T) {
	x := must(t, []Row[int]{{65, 90, 1}, {97, 122, 1}}, 0)
	if x.Get(70) != 1 || x.Get(91) != 0 || x.Blocks() != 2 {
		t.Error(x.Get(70), x.Get(91), x.Blocks())
	}
	for r, want := range map[rune]int{64: 0, 65: 1, 90: 1, 91: 0, 96: 0, 97: 1, 122: 1, 123: 0, 65 + 256: 0} {
		if got := x.Get(r); got != want {
			t.Errorf("Get(%d) = %d", r, got)
		}
	}
}

func TestP5_1NoRows(t *testing.T) {
	for _, rows := range [][]Row[int]{nil, {}} {
		x := must(t, rows, 7)
		if x.Get(0) != 7 || x.Get(0x10FFFF) != 7 || x.Get(-1) != 7 || len(x.Rows()) != 0 || x.Blocks() != 1 {
			t.Error(x.Get(0), x.Rows(), x.Blocks())
		}
	}
}

func TestP5_1Errors(t *testing.T) {
	full := make([]Row[int], api.MaxRows+1)
	for _, x := range []struct {
		rows []Row[int]
		want api.Errno
	}{
		{[]Row[int]{{-1, 5, 1}}, api.ErrRange},
		{[]Row[int]{{math.MinInt32, math.MaxInt32, 1}}, api.ErrRange},
		{[]Row[int]{{5, 4, 1}}, api.ErrRange},
		{[]Row[int]{{0, -1, 1}}, api.ErrRange},
		{[]Row[int]{{-5, -3, 1}}, api.ErrRange},
		{[]Row[int]{{5, 0x110000, 1}}, api.ErrRange},
		{[]Row[int]{{0x110000, 0x110000, 1}}, api.ErrRange},
		{[]Row[int]{{math.MaxInt32, math.MaxInt32, 1}}, api.ErrRange},
		{[]Row[int]{{0, 0x10FFFF, 1}}, api.OK},
		{[]Row[int]{{0, 0, 1}, {0x10FFFF, 0x10FFFF, 1}}, api.OK},
		{[]Row[int]{{5, 9, 1}, {9, 9, 1}}, api.ErrForm},
		{[]Row[int]{{5, 9, 1}, {9, 12, 2}}, api.ErrForm},
		{[]Row[int]{{5, 9, 1}, {5, 9, 1}}, api.ErrForm},
		{[]Row[int]{{5, 9, 1}, {0, 4, 1}}, api.ErrForm},
		{[]Row[int]{{5, 9, 1}, {6, 7, 1}}, api.ErrForm},
		{[]Row[int]{{0, 0, 1}, {0, 0, 1}}, api.ErrForm},
		{[]Row[int]{{0, 5, 0}, {3, 9, 0}}, api.ErrForm},
		{[]Row[int]{{5, 9, 1}, {10, 10, 1}}, api.OK},
		{[]Row[int]{{5, 9, 1}, {20, 20, 1}, {15, 17, 1}}, api.ErrForm},
		{[]Row[int]{{5, 9, 1}, {8, 7, 1}}, api.ErrRange},                   // one row, both errors
		{[]Row[int]{{5, 9, 1}, {-1, 3, 1}}, api.ErrRange},                  // one row, both errors
		{[]Row[int]{{5, 9, 1}, {7, 0x110000, 1}}, api.ErrRange},            // one row, both errors
		{[]Row[int]{{5, 9, 1}, {7, 8, 1}, {-1, 3, 1}}, api.ErrForm},        // the row ahead has its error first
		{[]Row[int]{{5, 9, 1}, {12, 11, 1}, {9, 9, 1}}, api.ErrRange},      // the row ahead has its error first
		{[]Row[int]{{5, 0x110000, 1}, {0, 1, 1}, {2, 1, 1}}, api.ErrRange}, // the row ahead has its error first
		{full, api.ErrFull}, // the rows have errors, too
		{append(full[:len(full):len(full)], Row[int]{-1, -2, 0}), api.ErrFull},
		{full[:api.MaxRows], api.ErrForm},
	} {
		got, e := Build(x.rows, 0)
		if e != x.want || (got != nil) != (e == api.OK) {
			t.Errorf("Build(%.100v) = %v, %d; want %d", x.rows, got != nil, e, x.want)
		}
	}
}

func TestP5_1AsManyRowsAsMayBe(t *testing.T) {
	var rows []Row[int]
	for i := range api.MaxRows {
		rows = append(rows, Row[int]{rune(i * 260), rune(i*260 + 250), i + 1})
	}
	holds(t, rows, 0)
	holds(t, rows, 5)
	rows = append(rows, Row[int]{0x10FFFF, 0x10FFFF, 1})
	if x, e := Build(rows, 0); x != nil || e != api.ErrFull {
		t.Error(e)
	}
}

func TestP5_1Edges(t *testing.T) {
	for _, rows := range [][]Row[int]{
		{{0, 0x10FFFF, 1}},
		{{0, 0, 1}},
		{{0x10FFFF, 0x10FFFF, 1}},
		{{0, 0x10FFFE, 1}},
		{{1, 0x10FFFF, 1}},
		{{0, 255, 1}},
		{{0, 256, 1}},
		{{255, 256, 1}},
		{{256, 511, 1}},
		{{255, 512, 1}},
		{{254, 255, 1}, {256, 257, 1}},
		{{254, 255, 1}, {256, 257, 2}},
		{{0x10FF00, 0x10FFFF, 1}},
		{{0x10FEFF, 0x10FF00, 1}},
		{{0xD7FF, 0xE000, 1}},
		{{0xD800, 0xDFFF, 1}},
		{{0, 127, 1}, {128, 255, 2}, {256, 383, 1}, {384, 511, 2}, {512, 639, 2}, {640, 767, 1}},
		{{3, 3, 1}, {256 + 3, 256 + 3, 1}, {512 + 3, 512 + 3, 2}, {768 + 4, 768 + 4, 1}},
	} {
		holds(t, rows, 0)
		holds(t, rows, 1)
		holds(t, rows, 2)
		holds(t, rows, -1)
	}
}

func TestP5_1RowsAreTheFewest(t *testing.T) {
	for _, x := range []struct {
		rows, want []Row[string]
	}{
		{[]Row[string]{{5, 9, "a"}, {10, 12, "a"}}, []Row[string]{{5, 12, "a"}}},
		{[]Row[string]{{5, 9, "a"}, {11, 12, "a"}}, []Row[string]{{5, 9, "a"}, {11, 12, "a"}}},
		{[]Row[string]{{5, 9, "a"}, {10, 12, "b"}, {13, 13, "a"}}, []Row[string]{{5, 9, "a"}, {10, 12, "b"}, {13, 13, "a"}}},
		{[]Row[string]{{5, 9, "a"}, {10, 12, "-"}, {13, 13, "a"}}, []Row[string]{{5, 9, "a"}, {13, 13, "a"}}},
		{[]Row[string]{{5, 9, "-"}, {10, 0x10FFFF, "-"}}, nil},
		{[]Row[string]{{0, 0, "a"}, {1, 0x10FFFE, "a"}, {0x10FFFF, 0x10FFFF, "a"}}, []Row[string]{{0, 0x10FFFF, "a"}}},
		{[]Row[string]{{5, 5, ""}, {6, 300, ""}}, []Row[string]{{5, 300, ""}}},
	} {
		if got := must(t, x.rows, "-").Rows(); !slices.Equal(got, x.want) {
			t.Errorf("Rows of %v: %v", x.rows, got)
		}
		holds(t, x.rows, "-")
	}
}

func TestP5_1Blocks(t *testing.T) {
	for _, x := range []struct {
		rows []Row[int]
		want int
	}{
		{nil, 1},
		{[]Row[int]{{0, 0x10FFFF, 1}}, 1},
		{[]Row[int]{{0, 0x10FFFF, 0}}, 1},
		{[]Row[int]{{0, 255, 1}}, 2},
		{[]Row[int]{{0, 256, 1}}, 3},
		{[]Row[int]{{1, 0x10FFFE, 1}}, 3},
		{[]Row[int]{{5, 5, 1}, {256 + 5, 256 + 5, 1}}, 2},
		{[]Row[int]{{5, 5, 1}, {256 + 5, 256 + 5, 2}}, 3},
		{[]Row[int]{{5, 5, 1}, {256 + 6, 256 + 6, 1}}, 3},
		{[]Row[int]{{256, 511, 1}, {1024, 2047, 1}, {0x10FF00, 0x10FFFF, 1}}, 2},
	} {
		if got := must(t, x.rows, 0).Blocks(); got != x.want {
			t.Errorf("Blocks of %v: %d, want %d", x.rows, got, x.want)
		}
	}
}

// pair is a value of several fields.
type pair struct {
	name string
	n    [2]int
}

func TestP5_1ValuesOfAnyType(t *testing.T) {
	holds(t, []Row[string]{{0, 300, "a"}, {301, 400, ""}, {500, 0x10000, "\xff"}}, "")
	holds(t, []Row[bool]{{65, 90, true}, {91, 96, false}, {97, 122, true}}, false)
	holds(t, []Row[bool]{{65, 90, true}, {91, 96, false}, {97, 122, true}}, true)
	holds(t, []Row[uint8]{{65, 90, 255}, {91, 1000, 254}}, 255)
	holds(t, []Row[pair]{{1, 600, pair{"a", [2]int{1, 2}}}, {601, 700, pair{"a", [2]int{1, 3}}}, {701, 800, pair{"b", [2]int{1, 3}}}}, pair{})
	holds(t, []Row[[3]string]{{1, 600, [3]string{"a"}}, {601, 700, [3]string{"", "a"}}}, [3]string{"a"})
	holds(t, []Row[struct{}]{{1, 600, struct{}{}}}, struct{}{})
	holds(t, []Row[any]{{1, 600, 1}, {601, 700, int8(1)}, {701, 800, "1"}, {801, 900, nil}}, nil)
	a, b := new(int), new(int)
	holds(t, []Row[*int]{{1, 600, a}, {601, 700, b}, {701, 701, nil}, {800, 900, a}}, nil)
	holds(t, []Row[float64]{{1, 600, 0}, {601, 700, math.Copysign(0, -1)}, {701, 701, math.Inf(1)}}, 1)
}

// TestP5_1ValuesThatDoNotEqualThemselves: each row is still told, and the bound on blocks holds.
func TestP5_1ValuesThatDoNotEqualThemselves(t *testing.T) {
	nan := math.NaN()
	x := must(t, []Row[float64]{{1, 0x10FF00, nan}, {0x10FF01, 0x10FF09, nan}}, nan)
	if x.Get(0) == x.Get(0) || x.Get(1) == x.Get(1) || x.Get(-1) == x.Get(-1) {
		t.Error("values")
	}
	again := must(t, x.Rows(), nan)
	if got := x.Rows(); len(got) != 2 || got[0].From != 1 || got[1].To != 0x10FF09 || len(again.Rows()) != 2 {
		t.Error(got)
	}
	if x.Blocks() > 7 || again.Blocks() != x.Blocks() {
		t.Error(x.Blocks())
	}
}

// TestP5_1ValuesThatCanNotBeCompared: an interface can be compared, but not all that it may hold; no call panics.
func TestP5_1ValuesThatCanNotBeCompared(t *testing.T) {
	list := []int{1}
	x := must(t, []Row[any]{{0, 4, 1}, {5, 9, list}, {10, 19, list}, {300, 900, list}, {1000, 1001, 1}}, any(list))
	if x.Get(2) != 1 || x.Get(1001) != 1 {
		t.Error("Get")
	}
	for _, r := range []rune{-1, 5, 9, 10, 19, 20, 300, 900, 0x10FFFF} {
		if l, ok := x.Get(r).([]int); !ok || !slices.Equal(l, list) {
			t.Errorf("Get(%d) = %v", r, x.Get(r))
		}
	}
	if len(x.Rows()) != 5 || x.Blocks() > 16 {
		t.Error(len(x.Rows()), x.Blocks())
	}
}

func TestP5_1WhatIsHandedInStays(t *testing.T) {
	room := []Row[int]{{5, 9, 1}, {10, 12, 1}, {300, 400, 2}, {77, 3, 3}}
	was := slices.Clone(room)
	x := must(t, room[:3], 0)
	if !slices.Equal(room, was) {
		t.Error("Build changed what it was handed")
	}
	room[0], room[2] = Row[int]{0, 1, 9}, Row[int]{20, 30, 9}
	if x.Get(7) != 1 || x.Get(350) != 2 || x.Get(0) != 0 || x.Get(25) != 0 {
		t.Error("the table hangs on what was handed in")
	}
	first, second := x.Rows(), x.Rows()
	first[0] = Row[int]{1, 2, 3}
	want := []Row[int]{{5, 12, 1}, {300, 400, 2}}
	if !slices.Equal(second, want) || !slices.Equal(x.Rows(), want) {
		t.Error("two answers share memory")
	}
	first = append(first[:1], Row[int]{1, 2, 3})
	if !slices.Equal(x.Rows(), want) || x.Get(350) != 2 {
		t.Error("the table hangs on what it told")
	}
	if y := must(t, []Row[int]{{5, 9, 4}}, 0); y.Get(5) != 4 || x.Get(5) != 1 {
		t.Error("two tables hang on one another")
	}
}

// scatter makes rows by counting, some of them side by side, some of the other one's value.
func scatter(seed uint32, rows, gap, length, values int) []Row[int] {
	next := func(n int) int {
		seed = seed*1664525 + 1013904223
		return int(seed>>8) % n
	}
	var out []Row[int]
	from := rune(next(gap))
	for range rows {
		to := from + rune(next(length))
		if to > api.MaxRune {
			break
		}
		out = append(out, Row[int]{from, to, next(values)})
		from = to + 1 + rune(next(gap))
	}
	return out
}

func TestP5_2RowsBuildTheSame(t *testing.T) {
	for i, x := range []struct{ rows, gap, length, values int }{
		{1, 0x100000, 1, 2}, {1, 300, 0x100000, 2}, {5, 1, 1000, 2}, {20, 1, 0x10000, 3}, {20, 50000, 50000, 3},
		{100, 3, 3, 2}, {100, 2, 300, 2}, {300, 300, 300, 3}, {1000, 1000, 10, 4}, {4096, 1, 2, 2}, {4096, 2, 500, 5}, {4096, 500, 3, 2},
	} {
		for seed := range uint32(3) {
			holds(t, scatter(seed+uint32(i)*7, x.rows, x.gap, x.length, x.values), 0)
		}
	}
}

func TestP5_3BlocksAreFew(t *testing.T) {
	var rows []Row[int]
	for i := range 1000 {
		rows = append(rows, Row[int]{rune(i*1024 + 5), rune(i*1024 + 700), i + 1})
		if i%100 == 0 {
			if got := must(t, rows, 0).Blocks(); got != 3*len(rows)+1 {
				t.Fatalf("%d rows: %d blocks, want three times as many, and one", len(rows), got)
			}
		}
	}
	holds(t, rows, 0)
	for i := range rows {
		rows[i].V = 1
	}
	if got := must(t, rows, 0).Blocks(); got != 4 {
		t.Errorf("rows of one value, at one place: %d blocks", got)
	}
}

func FuzzBuild(f *testing.F) {
	f.Add(int32(65), int32(90), 1, int32(97), int32(122), 1, 0)
	f.Add(int32(5), int32(9), 1, int32(9), int32(9), 1, 0)
	f.Add(int32(0), int32(0x10FFFF), 1, int32(-1), int32(0x110000), 2, 1)
	f.Fuzz(func(t *testing.T, from, to int32, v int, from2, to2 int32, v2, other int) {
		rows := []Row[int]{{from, to, v}, {from2, to2, v2}}
		want := api.OK
		for i, row := range rows {
			if row.From < 0 || row.To < row.From || row.To > 0x10FFFF {
				want = api.ErrRange
			} else if i > 0 && row.From <= rows[i-1].To {
				want = api.ErrForm
			}
			if want != api.OK {
				break
			}
		}
		if x, e := Build(rows, other); e != want || (x != nil) != (e == api.OK) {
			t.Fatalf("Build(%v) = %v, %d", rows, x != nil, e)
		}
		if want == api.OK {
			holds(t, rows, other)
		}
	})
}
