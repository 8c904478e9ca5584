package schema

import (
	"math"
	"reflect"
	"slices"
	"strconv"
	"strings"
	"testing"

	"haulage/api"
	"haulage/name"
	"haulage/typ"
)

var (
	tInt  = api.Type{Kind: api.KInt}
	tLong = api.Type{Kind: api.KLong}
	null  = api.Value{}
)

func text(most int) api.Type  { return api.Type{Kind: api.KText, Max: most} }
func bytes(most int) api.Type { return api.Type{Kind: api.KBytes, Max: most} }

func vInt(n int64) api.Value    { return api.Value{Kind: api.KInt, N: n} }
func vLong(n int64) api.Value   { return api.Value{Kind: api.KLong, N: n} }
func vText(s string) api.Value  { return api.Value{Kind: api.KText, S: s} }
func vBytes(s string) api.Value { return api.Value{Kind: api.KBytes, S: s} }

func field(name string, v api.Value) api.Field { return api.Field{Name: name, Value: v} }

// example returns the table of the chapter's example.
func example() api.Table {
	return api.Table{Id: 0, Name: "t", Key: 0, Next: 2, Cols: []api.Column{
		{Id: 0, Name: "a", Type: tInt},
		{Id: 1, Name: "b", Type: text(5), Null: true},
	}}
}

// goods returns a valid table with a column of each kind, whose key is neither
// the first nor the last column, and whose Ids have gaps.
func goods() api.Table {
	return api.Table{Id: 4, Name: "goods", Key: 7, Next: 20, Cols: []api.Column{
		{Id: 2, Name: "label", Type: text(5), Default: vText("new")},
		{Id: 5, Name: "weight", Type: tInt, Null: true, Default: vInt(1)},
		{Id: 7, Name: "id", Type: tLong},
		{Id: 9, Name: "seal", Type: bytes(3), Null: true},
		{Id: 19, Name: "note", Type: text(120)},
	}}
}

func goodsRow() []api.Value {
	return []api.Value{vText("box"), vInt(3), vLong(70), vBytes("\xff\x00"), vText("")}
}

// wide returns a valid table of so many columns, all Null but the first one,
// which is the key column.
func wide(columns int) api.Table {
	t := api.Table{Name: "w", Next: columns}
	for i := range columns {
		t.Cols = append(t.Cols, api.Column{Id: i, Name: "c" + strconv.Itoa(i), Type: tInt, Null: i > 0, Default: vInt(int64(i))})
	}
	return t
}

// many returns a valid catalog of so many tables.
func many(tables int) api.Catalog {
	var c api.Catalog
	for i := range tables {
		t := goods()
		t.Id, t.Name = 3*i, "t"+strconv.Itoa(i)
		c.Tables = append(c.Tables, t)
	}
	return c
}

func altered(t api.Table, alter func(t *api.Table)) api.Table {
	t.Cols = slices.Clone(t.Cols)
	alter(&t)
	return t
}

// notRight returns tables that are not valid.
func notRight() []api.Table {
	return []api.Table{
		{},
		{Name: "t"},
		altered(example(), func(t *api.Table) { t.Id = -1 }),
		altered(example(), func(t *api.Table) { t.Name = "T" }),
		altered(example(), func(t *api.Table) { t.Key = 1 }),
		altered(example(), func(t *api.Table) { t.Key = 2 }),
		altered(example(), func(t *api.Table) { t.Next = 1 }),
		altered(example(), func(t *api.Table) { t.Next = 201 }),
		altered(example(), func(t *api.Table) { t.Cols[1].Name = "a" }),
		altered(example(), func(t *api.Table) { t.Cols[1].Type = text(0) }),
		altered(example(), func(t *api.Table) { t.Cols[1].Default = vInt(1) }),
		wide(11),
	}
}

func rightColumnByDefinition(c api.Column) bool {
	defaultFits := c.Default.Kind == api.KNull && c.Default.N == 0 && c.Default.S == "" || typ.Fits(c.Type, c.Default)
	return slices.Contains(numbers(0, 199), c.Id) && name.Right(c.Name) && typ.Right(c.Type) && defaultFits
}

// numbers returns the numbers from the first to the last.
func numbers(first, last int) []int {
	var l []int
	for n := first; n <= last; n++ {
		l = append(l, n)
	}
	return l
}

func rightTableByDefinition(t api.Table) bool {
	if t.Id < 0 || !name.Right(t.Name) || !slices.Contains(numbers(1, 10), len(t.Cols)) || t.Next > 200 {
		return false
	}
	var names []string
	var ids, keys []int
	for _, c := range t.Cols {
		if !rightColumnByDefinition(c) || c.Id >= t.Next {
			return false
		}
		names, ids = append(names, c.Name), append(ids, c.Id)
		if !c.Null {
			keys = append(keys, c.Id)
		}
	}
	sorted := slices.Compact(slices.Sorted(slices.Values(ids)))
	return len(name.Sorted(names...)) == len(names) && slices.Equal(sorted, ids) && slices.Contains(keys, t.Key)
}

// rowByDefinition says what Row returns for a valid table.
func rowByDefinition(t api.Table, row []api.Value) api.Errno {
	if len(row) != len(t.Cols) {
		return api.ErrForm
	}
	for i, v := range row {
		if v.Kind == api.KNull && v.N == 0 && v.S == "" {
			if !t.Cols[i].Null {
				return api.ErrNull
			}
		} else if !typ.Fits(t.Cols[i].Type, v) {
			return api.ErrRange
		}
	}
	return api.OK
}

// fieldsByDefinition says which error the fields have, for a valid table: key
// is the Name of the column that cannot have a field.
func fieldsByDefinition(t api.Table, l []api.Field, key string) api.Errno {
	if len(l) > 10 {
		return api.ErrLimit
	}
	columns, seen := map[string]int{}, map[string]int{}
	for _, c := range t.Cols {
		columns[c.Name]++
	}
	for _, f := range l {
		seen[f.Name]++
		if columns[f.Name] == 0 {
			return api.ErrColumn
		}
		if seen[f.Name] > 1 {
			return api.ErrTwice
		}
		if f.Name == key {
			return api.ErrKey
		}
	}
	return api.OK
}

// withFields returns the value of each column's field, or the given one.
func withFields(t api.Table, l []api.Field, others []api.Value) []api.Value {
	values := map[string]api.Value{}
	for i, c := range t.Cols {
		values[c.Name] = others[i]
	}
	for _, f := range l {
		values[f.Name] = f.Value
	}
	var row []api.Value
	for _, c := range t.Cols {
		row = append(row, values[c.Name])
	}
	return row
}

func fillByDefinition(t api.Table, l []api.Field) ([]api.Value, api.Errno) {
	if e := fieldsByDefinition(t, l, ""); e != api.OK {
		return nil, e
	}
	var presets []api.Value
	for _, c := range t.Cols {
		presets = append(presets, c.Default)
	}
	row := withFields(t, l, presets)
	if e := rowByDefinition(t, row); e != api.OK {
		return nil, e
	}
	return row, api.OK
}

// setByDefinition says what Set returns for a valid table whose key column has
// this Name.
func setByDefinition(t api.Table, key string, row []api.Value, l []api.Field) ([]api.Value, api.Errno) {
	if e := rowByDefinition(t, row); e != api.OK {
		return nil, e
	}
	if e := fieldsByDefinition(t, l, key); e != api.OK {
		return nil, e
	}
	result := withFields(t, l, row)
	if e := rowByDefinition(t, result); e != api.OK {
		return nil, e
	}
	return result, api.OK
}

func checkFill(t *testing.T, table api.Table, l []api.Field, want []api.Value, wantE api.Errno) {
	t.Helper()
	got, e := Fill(table, l)
	if !slices.Equal(got, want) || e != wantE {
		t.Errorf("Fill(%v, %v) is %v, %d, want %v, %d", table, l, got, e, want, wantE)
	}
}

func checkSet(t *testing.T, table api.Table, row []api.Value, l []api.Field, want []api.Value, wantE api.Errno) {
	t.Helper()
	got, e := Set(table, row, l)
	if !slices.Equal(got, want) || e != wantE {
		t.Errorf("Set(%v, %v, %v) is %v, %d, want %v, %d", table, row, l, got, e, want, wantE)
	}
}

// eachFields passes each list of so many of the fields.
func eachFields(fields []api.Field, count int, tell func(l []api.Field)) {
	if count == 0 {
		tell(nil)
		return
	}
	eachFields(fields, count-1, func(l []api.Field) {
		for _, f := range fields {
			tell(append(slices.Clone(l), f))
		}
	})
}

// P8.1
func TestRightColumn(t *testing.T) {
	for _, c := range []struct {
		what string
		c    api.Column
		want bool
	}{
		{"ordinary", api.Column{Id: 3, Name: "a", Type: tInt}, true},
		{"Null", api.Column{Id: 3, Name: "a", Type: tInt, Null: true}, true},
		{"zero", api.Column{}, false},
		{"Id -1", api.Column{Id: -1, Name: "a", Type: tInt}, false},
		{"Id 0", api.Column{Id: 0, Name: "a", Type: tInt}, true},
		{"Id 199", api.Column{Id: 199, Name: "a", Type: tInt}, true},
		{"Id 200", api.Column{Id: 200, Name: "a", Type: tInt}, false},
		{"least Id", api.Column{Id: math.MinInt, Name: "a", Type: tInt}, false},
		{"greatest Id", api.Column{Id: math.MaxInt, Name: "a", Type: tInt}, false},
		{"Id 0 in its low bits", api.Column{Id: 1 << 32, Name: "a", Type: tInt}, false},
		{"no Name", api.Column{Type: tInt}, false},
		{"Name in capitals", api.Column{Name: "A", Type: tInt}, false},
		{"Name with a digit first", api.Column{Name: "1a", Type: tInt}, false},
		{"Name with a space", api.Column{Name: "a b", Type: tInt}, false},
		{"Name of 16 bytes", api.Column{Name: strings.Repeat("a", 16), Type: tInt}, true},
		{"Name of 17 bytes", api.Column{Name: strings.Repeat("a", 17), Type: tInt}, false},
		{"no Type", api.Column{Name: "a"}, false},
		{"Type int with Max", api.Column{Name: "a", Type: api.Type{Kind: api.KInt, Max: 1}}, false},
		{"text(0)", api.Column{Name: "a", Type: text(0)}, false},
		{"text(1)", api.Column{Name: "a", Type: text(1)}, true},
		{"bytes(120)", api.Column{Name: "a", Type: bytes(120)}, true},
		{"bytes(121)", api.Column{Name: "a", Type: bytes(121)}, false},
		{"Type of no kind", api.Column{Name: "a", Type: api.Type{Kind: 5}}, false},
		{"Default that fits", api.Column{Name: "a", Type: tInt, Default: vInt(7)}, true},
		{"Default that fits a Null one", api.Column{Name: "a", Type: tInt, Null: true, Default: vInt(7)}, true},
		{"Default of Max bytes", api.Column{Name: "a", Type: text(3), Default: vText("abc")}, true},
		{"Default of one byte more", api.Column{Name: "a", Type: text(3), Default: vText("abcd")}, false},
		{"Default of another kind", api.Column{Name: "a", Type: tLong, Default: vInt(7)}, false},
		{"Default of bytes for a text", api.Column{Name: "a", Type: text(3), Default: vBytes("abc")}, false},
		{"Default beyond 32 bits", api.Column{Name: "a", Type: tInt, Default: vInt(1 << 31)}, false},
		{"Default not in UTF-8", api.Column{Name: "a", Type: text(3), Default: vText("\xff")}, false},
		{"Default null with a number", api.Column{Name: "a", Type: tInt, Null: true, Default: api.Value{N: 1}}, false},
		{"Default null with a string", api.Column{Name: "a", Type: text(3), Null: true, Default: api.Value{S: "a"}}, false},
		{"null, but Type not valid", api.Column{Name: "a", Type: text(0), Null: true}, false},
	} {
		if got := RightColumn(c.c); got != c.want {
			t.Errorf("%s: RightColumn(%v) is %t", c.what, c.c, got)
		}
	}
}

// P8.1: each combination of some parts.
func TestRightColumnAgainstTheDefinition(t *testing.T) {
	for id := -3; id <= 260; id++ {
		for _, s := range []string{"", "a", "a_1", "_a", "é"} {
			for _, u := range []api.Type{{}, tInt, tLong, text(0), text(3), text(121), bytes(3), {Kind: 5, Max: 3}} {
				for _, v := range []api.Value{null, {N: 1}, {S: "a"}, vInt(1), vLong(1), vText("abc"), vText("abcd"), vBytes("abc"), {Kind: 5}} {
					c := api.Column{Id: id, Name: s, Type: u, Null: id%2 == 0, Default: v}
					if got := RightColumn(c); got != rightColumnByDefinition(c) {
						t.Fatalf("RightColumn(%v) is %t", c, got)
					}
				}
			}
		}
	}
}

// P8.1
func TestRightTable(t *testing.T) {
	for _, c := range []struct {
		what  string
		from  api.Table
		alter func(t *api.Table)
		want  bool
	}{
		{"the example", example(), func(t *api.Table) {}, true},
		{"goods", goods(), func(t *api.Table) {}, true},
		{"Id -1", goods(), func(t *api.Table) { t.Id = -1 }, false},
		{"Id 0", goods(), func(t *api.Table) { t.Id = 0 }, true},
		{"Id above MaxId", goods(), func(t *api.Table) { t.Id = 201 }, true},
		{"greatest Id", goods(), func(t *api.Table) { t.Id = math.MaxInt }, true},
		{"least Id", goods(), func(t *api.Table) { t.Id = math.MinInt }, false},
		{"no Name", goods(), func(t *api.Table) { t.Name = "" }, false},
		{"Name in capitals", goods(), func(t *api.Table) { t.Name = "GOODS" }, false},
		{"Name of 16 bytes", goods(), func(t *api.Table) { t.Name = strings.Repeat("t", 16) }, true},
		{"Name of 17 bytes", goods(), func(t *api.Table) { t.Name = strings.Repeat("t", 17) }, false},
		{"Name of a column", goods(), func(t *api.Table) { t.Name = "id" }, true},
		{"no column", goods(), func(t *api.Table) { t.Cols = nil }, false},
		{"no column, empty", goods(), func(t *api.Table) { t.Cols = t.Cols[:0] }, false},
		{"no column, Key 0", example(), func(t *api.Table) { t.Cols, t.Next = nil, 0 }, false},
		{"1 column", wide(1), func(t *api.Table) {}, true},
		{"10 columns", wide(10), func(t *api.Table) {}, true},
		{"11 columns", wide(11), func(t *api.Table) {}, false},
		{"200 columns", wide(200), func(t *api.Table) {}, false},
		{"first column not valid", goods(), func(t *api.Table) { t.Cols[0].Name = "" }, false},
		{"key column not valid", goods(), func(t *api.Table) { t.Cols[2].Type = text(0) }, false},
		{"last column not valid", goods(), func(t *api.Table) { t.Cols[4].Default = vInt(1) }, false},
		{"Id of a column -1", goods(), func(t *api.Table) { t.Cols[0].Id = -1 }, false},
		{"Id of a column 0", goods(), func(t *api.Table) { t.Cols[0].Id = 0 }, true},
		{"equal Ids", goods(), func(t *api.Table) { t.Cols[1].Id = 2 }, false},
		{"equal Ids at the end", goods(), func(t *api.Table) { t.Cols[3].Id = 19 }, false},
		{"decreasing Ids", goods(), func(t *api.Table) { t.Cols[0].Id, t.Cols[1].Id = 5, 2 }, false},
		{"decreasing Ids at the end", goods(), func(t *api.Table) { t.Cols[3].Id, t.Cols[4].Id = 19, 9 }, false},
		{"equal Ids that are not neighbours", goods(), func(t *api.Table) { t.Cols[4].Id = 5 }, false},
		{"Id Next - 1", goods(), func(t *api.Table) { t.Next = 20 }, true},
		{"Id Next", goods(), func(t *api.Table) { t.Next = 19 }, false},
		{"Id above Next", goods(), func(t *api.Table) { t.Next = 18 }, false},
		{"Next 0", goods(), func(t *api.Table) { t.Next = 0 }, false},
		{"Next -1", goods(), func(t *api.Table) { t.Next = -1 }, false},
		{"Next 200", goods(), func(t *api.Table) { t.Next = 200 }, true},
		{"Next 201", goods(), func(t *api.Table) { t.Next = 201 }, false},
		{"greatest Next", goods(), func(t *api.Table) { t.Next = math.MaxInt }, false},
		{"Id 199, Next 200", goods(), func(t *api.Table) { t.Cols[4].Id, t.Next = 199, 200 }, true},
		{"Id 200, Next 200", goods(), func(t *api.Table) { t.Cols[4].Id, t.Next = 200, 200 }, false},
		{"Id 200, Next 201", goods(), func(t *api.Table) { t.Cols[4].Id, t.Next = 200, 201 }, false},
		{"one Name twice", goods(), func(t *api.Table) { t.Cols[1].Name = "label" }, false},
		{"one Name first and last", goods(), func(t *api.Table) { t.Cols[4].Name = "label" }, false},
		{"one Name, the last two", goods(), func(t *api.Table) { t.Cols[4].Name = "seal" }, false},
		{"Key of no column", goods(), func(t *api.Table) { t.Key = 8 }, false},
		{"Key -1", goods(), func(t *api.Table) { t.Key = -1 }, false},
		{"Key that is an index alone", goods(), func(t *api.Table) { t.Key = 0 }, false},
		{"Key that is Next", goods(), func(t *api.Table) { t.Key = 20 }, false},
		{"Key of a Null column", goods(), func(t *api.Table) { t.Key = 5 }, false},
		{"key column made Null", goods(), func(t *api.Table) { t.Cols[2].Null = true }, false},
		{"Key of the first column", goods(), func(t *api.Table) { t.Key = 2 }, true},
		{"Key of the last column", goods(), func(t *api.Table) { t.Key = 19 }, true},
		{"key column with a Default", goods(), func(t *api.Table) { t.Cols[2].Default = vLong(1) }, true},
		{"all others Null", goods(), func(t *api.Table) { t.Cols[0].Null, t.Cols[4].Null = true, true }, true},
	} {
		table := altered(c.from, c.alter)
		if got := RightTable(table); got != c.want {
			t.Errorf("%s: RightTable(%v) is %t", c.what, table, got)
		}
		if got := Right(api.Catalog{Tables: []api.Table{table}}); got != c.want {
			t.Errorf("%s: Right of the catalog of %v is %t", c.what, table, got)
		}
	}
	if RightTable(api.Table{}) {
		t.Error("RightTable of the zero table is true")
	}
	for _, table := range notRight() {
		if RightTable(table) {
			t.Errorf("RightTable(%v) is true", table)
		}
	}
}

// P8.1: all combinations of some parts of tables of one and two columns.
func TestRightTableAgainstTheDefinition(t *testing.T) {
	ids := []int{-1, 0, 1, 2, 199, 200}
	names := []string{"a", "b", ""}
	check := func(table api.Table) {
		for _, table.Next = range []int{-1, 0, 1, 2, 3, 199, 200, 201} {
			for _, table.Key = range ids {
				if got := RightTable(table); got != rightTableByDefinition(table) {
					t.Fatalf("RightTable(%v) is %t", table, got)
				}
			}
		}
	}
	var columns []api.Column
	for _, id := range ids {
		for _, s := range names {
			columns = append(columns, api.Column{Id: id, Name: s, Type: tInt}, api.Column{Id: id, Name: s, Type: tInt, Null: true})
		}
	}
	for _, c := range columns {
		check(api.Table{Name: "t", Cols: []api.Column{c}})
		for _, d := range columns {
			check(api.Table{Name: "t", Cols: []api.Column{c, d}})
		}
	}
}

// P8.1
func TestRight(t *testing.T) {
	for _, c := range []struct {
		what   string
		tables int
		alter  func(l []api.Table)
		want   bool
	}{
		{"no table", 0, func(l []api.Table) {}, true},
		{"1 table", 1, func(l []api.Table) {}, true},
		{"6 tables", 6, func(l []api.Table) {}, true},
		{"7 tables", 7, func(l []api.Table) {}, false},
		{"100 tables", 100, func(l []api.Table) {}, false},
		{"first not valid", 6, func(l []api.Table) { l[0].Next = 201 }, false},
		{"last not valid", 6, func(l []api.Table) { l[5].Key = 8 }, false},
		{"Id -1", 3, func(l []api.Table) { l[0].Id = -1 }, false},
		{"equal Ids", 3, func(l []api.Table) { l[1].Id = l[0].Id }, false},
		{"equal Ids at the end", 3, func(l []api.Table) { l[1].Id = l[2].Id }, false},
		{"equal Ids, first and last", 3, func(l []api.Table) { l[2].Id = l[0].Id }, false},
		{"decreasing Ids", 3, func(l []api.Table) { l[0].Id, l[1].Id = l[1].Id, l[0].Id }, false},
		{"decreasing Ids at the end", 3, func(l []api.Table) { l[1].Id, l[2].Id = l[2].Id, l[1].Id }, false},
		{"Ids far apart", 3, func(l []api.Table) { l[1].Id, l[2].Id = 1000, math.MaxInt }, true},
		{"one Name twice", 3, func(l []api.Table) { l[1].Name = l[0].Name }, false},
		{"one Name first and last", 6, func(l []api.Table) { l[5].Name = l[0].Name }, false},
		{"one Name, the last two", 6, func(l []api.Table) { l[5].Name = l[4].Name }, false},
		{"Names in no order", 3, func(l []api.Table) { l[0].Name, l[2].Name = l[2].Name, l[0].Name }, true},
	} {
		catalog := many(c.tables)
		c.alter(catalog.Tables)
		if got := Right(catalog); got != c.want {
			t.Errorf("%s: Right is %t", c.what, got)
		}
	}
	if !Right(api.Catalog{Tables: []api.Table{}}) {
		t.Error("Right of an empty slice of tables is false")
	}
}

// P8.1: also of catalogs that are not valid the first table that matches.
func TestFindAndById(t *testing.T) {
	valid := many(6)
	several := api.Catalog{Tables: []api.Table{{Id: 5, Name: "x"}, {Id: -2, Name: ""}, {Id: 5, Name: "X y"}, {Id: 3, Name: "x"}, {Id: -2, Name: "X y"}}}
	long := many(1000)
	for _, c := range []struct {
		catalog api.Catalog
		table   string
		want    int
		ok      bool
	}{
		{valid, "t0", 0, true}, {valid, "t1", 1, true}, {valid, "t5", 5, true}, {valid, "t6", 0, false}, {valid, "t", 0, false}, {valid, "T0", 0, false}, {valid, "", 0, false}, {valid, "t00", 0, false},
		{several, "x", 0, true}, {several, "", 1, true}, {several, "X y", 2, true}, {several, "X", 0, false},
		{long, "t0", 0, true}, {long, "t999", 999, true}, {long, "t1000", 0, false},
		{api.Catalog{}, "t", 0, false}, {api.Catalog{}, "", 0, false}, {api.Catalog{Tables: []api.Table{}}, "", 0, false},
	} {
		if got, ok := Find(c.catalog, c.table); got != c.want || ok != c.ok {
			t.Errorf("Find(%d tables, %q) is %d, %t", len(c.catalog.Tables), c.table, got, ok)
		}
	}
	for _, c := range []struct {
		catalog api.Catalog
		id      int
		want    int
		ok      bool
	}{
		{valid, 0, 0, true}, {valid, 3, 1, true}, {valid, 15, 5, true}, {valid, 1, 0, false}, {valid, 16, 0, false}, {valid, 18, 0, false}, {valid, -1, 0, false}, {valid, 1<<32 + 3, 0, false},
		{several, 5, 0, true}, {several, -2, 1, true}, {several, 3, 3, true}, {several, 0, 0, false}, {several, math.MinInt, 0, false},
		{long, 2997, 999, true}, {long, 3000, 0, false},
		{api.Catalog{}, 0, 0, false}, {api.Catalog{Tables: []api.Table{}}, 0, 0, false},
	} {
		if got, ok := ById(c.catalog, c.id); got != c.want || ok != c.ok {
			t.Errorf("ById(%d tables, %d) is %d, %t", len(c.catalog.Tables), c.id, got, ok)
		}
	}
}

// P8.1: also of tables that are not valid the first column that matches.
func TestColAndKey(t *testing.T) {
	several := api.Table{Key: -4, Cols: []api.Column{{Id: 1, Name: "x"}, {Id: -4, Name: "Y"}, {Id: -4, Name: "x"}, {Id: 1, Name: ""}, {Id: 9, Name: "Y"}, {Id: 9, Name: ""}}}
	for _, c := range []struct {
		table  api.Table
		column string
		want   int
		ok     bool
	}{
		{goods(), "label", 0, true}, {goods(), "weight", 1, true}, {goods(), "note", 4, true}, {goods(), "goods", 0, false}, {goods(), "LABEL", 0, false}, {goods(), "labe", 0, false}, {goods(), "labels", 0, false}, {goods(), "", 0, false},
		{several, "x", 0, true}, {several, "Y", 1, true}, {several, "", 3, true}, {several, "y", 0, false},
		{wide(1000), "c999", 999, true}, {wide(1000), "c1000", 0, false},
		{api.Table{}, "", 0, false}, {api.Table{Cols: []api.Column{}}, "a", 0, false},
	} {
		if got, ok := Col(c.table, c.column); got != c.want || ok != c.ok {
			t.Errorf("Col(%v, %q) is %d, %t", c.table, c.column, got, ok)
		}
	}
	for _, c := range []struct {
		key  int
		want int
		ok   bool
	}{{-4, 1, true}, {1, 0, true}, {9, 4, true}, {0, 0, false}, {2, 0, false}, {10, 0, false}, {-1, 0, false}} {
		several.Key = c.key
		if got, ok := Key(several); got != c.want || ok != c.ok {
			t.Errorf("Key(%v) is %d, %t", several, got, ok)
		}
	}
	if got, ok := Key(goods()); got != 2 || !ok {
		t.Errorf("Key(goods) is %d, %t", got, ok)
	}
	if got, ok := Key(example()); got != 0 || !ok {
		t.Errorf("Key(example) is %d, %t", got, ok)
	}
	for _, table := range []api.Table{{}, {Cols: []api.Column{}}, {Key: 3, Next: 4}} {
		if got, ok := Key(table); got != 0 || ok {
			t.Errorf("Key(%v) is %d, %t", table, got, ok)
		}
	}
}

// alterations returns changes of a table of five columns, each of a single
// part of it.
func alterations() map[string]func(t *api.Table) {
	l := map[string]func(t *api.Table){
		"Id":              func(t *api.Table) { t.Id++ },
		"Name":            func(t *api.Table) { t.Name += "x" },
		"Key":             func(t *api.Table) { t.Key = 19 },
		"Next":            func(t *api.Table) { t.Next++ },
		"no columns":      func(t *api.Table) { t.Cols = nil },
		"one less":        func(t *api.Table) { t.Cols = t.Cols[:4] },
		"one less before": func(t *api.Table) { t.Cols = t.Cols[1:] },
		"one more":        func(t *api.Table) { t.Cols = append(t.Cols, api.Column{}) },
		"order":           func(t *api.Table) { t.Cols[0], t.Cols[1] = t.Cols[1], t.Cols[0] },
	}
	for i := range 5 {
		at := " of column " + strconv.Itoa(i)
		l["Id"+at] = func(t *api.Table) { t.Cols[i].Id++ }
		l["Name"+at] = func(t *api.Table) { t.Cols[i].Name += "x" }
		l["Kind"+at] = func(t *api.Table) { t.Cols[i].Type.Kind++ }
		l["Max"+at] = func(t *api.Table) { t.Cols[i].Type.Max++ }
		l["Null"+at] = func(t *api.Table) { t.Cols[i].Null = !t.Cols[i].Null }
		l["Default's Kind"+at] = func(t *api.Table) { t.Cols[i].Default.Kind++ }
		l["Default's N"+at] = func(t *api.Table) { t.Cols[i].Default.N++ }
		l["Default's S"+at] = func(t *api.Table) { t.Cols[i].Default.S += "x" }
	}
	return l
}

// P8.1
func TestSameTable(t *testing.T) {
	for _, table := range slices.Concat([]api.Table{example(), goods(), wide(10), wide(1000)}, notRight()) {
		copied := altered(table, func(*api.Table) {})
		copied.Name = strings.Clone(table.Name)
		if !SameTable(table, copied) || !SameTable(copied, table) || !SameTable(table, table) {
			t.Errorf("SameTable of %v and its copy is false", table)
		}
	}
	for what, alter := range alterations() {
		other := altered(goods(), alter)
		if SameTable(goods(), other) || SameTable(other, goods()) {
			t.Errorf("SameTable is true though unlike in %s", what)
		}
		if !SameTable(other, altered(goods(), alter)) {
			t.Errorf("SameTable is false though both altered in %s", what)
		}
	}
	none, empty := api.Table{Name: "t"}, api.Table{Name: "t", Cols: []api.Column{}}
	if !SameTable(none, empty) || !SameTable(empty, none) || !SameTable(api.Table{}, api.Table{}) {
		t.Error("SameTable of a nil and an empty slice is false")
	}
}

// P8.1
func TestSame(t *testing.T) {
	for _, tables := range []int{0, 1, 6, 7, 100} {
		if !Same(many(tables), many(tables)) {
			t.Errorf("Same of equal catalogs of %d tables is false", tables)
		}
		if Same(many(tables), many(tables+1)) || Same(many(tables+1), many(tables)) {
			t.Errorf("Same of catalogs of %d tables and of one more is true", tables)
		}
	}
	for what, alter := range alterations() {
		for i := range 3 {
			other := many(3)
			other.Tables[i] = altered(other.Tables[i], alter)
			if Same(many(3), other) || Same(other, many(3)) {
				t.Errorf("Same is true though table %d is unlike in %s", i, what)
			}
		}
	}
	swapped := many(3)
	swapped.Tables[0], swapped.Tables[1] = swapped.Tables[1], swapped.Tables[0]
	if Same(many(3), swapped) {
		t.Error("Same of tables in another order is true")
	}
	none, empty := api.Catalog{}, api.Catalog{Tables: []api.Table{}}
	if !Same(none, empty) || !Same(empty, none) || Same(none, api.Catalog{Tables: []api.Table{{}}}) {
		t.Error("Same of a nil and an empty slice is false, or that of no table and one is true")
	}
	a, b := api.Catalog{Tables: []api.Table{{}}}, api.Catalog{Tables: []api.Table{{Cols: []api.Column{}}}}
	if !Same(a, b) || !Same(b, a) {
		t.Error("Same of tables with a nil and an empty slice is false")
	}
}

// P8.2
func TestRow(t *testing.T) {
	for _, c := range []struct {
		what  string
		table api.Table
		row   []api.Value
		want  api.Errno
	}{
		{"the example", example(), []api.Value{vInt(1), null}, api.OK},
		{"no null", example(), []api.Value{vInt(1), vText("abcde")}, api.OK},
		{"empty text", example(), []api.Value{vInt(0), vText("")}, api.OK},
		{"each kind", goods(), goodsRow(), api.OK},
		{"all nulls that can be", goods(), []api.Value{vText("box"), null, vLong(1), null, vText("")}, api.OK},
		{"10 columns", wide(10), make10(vInt(5)), api.OK},
		{"no values", example(), nil, api.ErrForm},
		{"no values, empty", example(), []api.Value{}, api.ErrForm},
		{"one value less", example(), []api.Value{vInt(1)}, api.ErrForm},
		{"one value more", example(), []api.Value{vInt(1), null, null}, api.ErrForm},
		{"null in the key", example(), []api.Value{null, null}, api.ErrNull},
		{"null in another column", goods(), []api.Value{vText("box"), null, vLong(1), null, null}, api.ErrNull},
		{"null where only a Default is", goods(), []api.Value{null, null, vLong(1), null, vText("")}, api.ErrNull},
		{"too long", example(), []api.Value{vInt(1), vText("abcdef")}, api.ErrRange},
		{"another kind", example(), []api.Value{vLong(1), null}, api.ErrRange},
		{"another kind of string", example(), []api.Value{vInt(1), vBytes("a")}, api.ErrRange},
		{"beyond 32 bits", example(), []api.Value{vInt(1 << 31), null}, api.ErrRange},
		{"not in UTF-8", example(), []api.Value{vInt(1), vText("\xff")}, api.ErrRange},
		{"null with a number", example(), []api.Value{vInt(1), {N: 1}}, api.ErrRange},
		{"null with a string", example(), []api.Value{vInt(1), {S: "a"}}, api.ErrRange},
		{"null with a number in the key", example(), []api.Value{{N: 1}, null}, api.ErrRange},
		{"no kind", example(), []api.Value{{Kind: 5}, null}, api.ErrRange},
		// Two errors at once.
		{"table and number", api.Table{}, nil, api.ErrArg},
		{"table and nothing else", altered(example(), func(t *api.Table) { t.Id = -1 }), []api.Value{vInt(1), null}, api.ErrArg},
		{"table of no columns, and values", api.Table{Name: "t"}, []api.Value{vInt(1)}, api.ErrArg},
		{"table and null", altered(example(), func(t *api.Table) { t.Next = 201 }), []api.Value{null, null}, api.ErrArg},
		{"table and range", altered(example(), func(t *api.Table) { t.Key = 1 }), []api.Value{vText("a"), null}, api.ErrArg},
		{"number and null", example(), []api.Value{null}, api.ErrForm},
		{"number and range", example(), []api.Value{vLong(1), null, vInt(1)}, api.ErrForm},
		{"null, then range", example(), []api.Value{null, vInt(1)}, api.ErrNull},
		{"range, then null", goods(), []api.Value{vInt(1), null, null, null, null}, api.ErrRange},
		{"range at a Null column, then null", goods(), []api.Value{vText("a"), vLong(1), null, null, null}, api.ErrRange},
		{"null, then range at the end", goods(), []api.Value{vText("a"), null, null, null, vInt(1)}, api.ErrNull},
	} {
		if got := Row(c.table, c.row); got != c.want {
			t.Errorf("%s: Row(%v, %v) is %d, want %d", c.what, c.table, c.row, got, c.want)
		}
	}
}

func make10(v api.Value) []api.Value {
	return slices.Repeat([]api.Value{v}, 10)
}

// P8.2: all rows of up to three of some values.
func TestRowAgainstTheDefinition(t *testing.T) {
	values := []api.Value{null, vInt(1), vLong(1), vText("abc"), vText("abcdef"), vBytes("abc"), vBytes("abcd"), {N: 1}, {S: "a"}, vText("\xff"), vInt(1 << 31), {Kind: -1}}
	tables := []api.Table{example(), goods(), wide(1), wide(3), altered(goods(), func(t *api.Table) { t.Cols = t.Cols[1:4] })}
	var rows [][]api.Value
	rows = append(rows, nil)
	for start := 0; len(rows[start]) < 3; start++ {
		for _, v := range values {
			rows = append(rows, append(slices.Clone(rows[start]), v))
		}
	}
	for _, row := range rows {
		for _, table := range tables {
			want := rowByDefinition(table, row)
			if got := Row(table, row); got != want {
				t.Errorf("Row(%v, %v) is %d, want %d", table, row, got, want)
			}
			_, e := Cells(table, row)
			if e != want {
				t.Errorf("Cells(%v, %v) returns %d, want %d", table, row, e, want)
			}
		}
		for _, table := range notRight() {
			if got := Row(table, row); got != api.ErrArg {
				t.Errorf("Row(%v, %v) is %d", table, row, got)
			}
		}
	}
}

// fieldsOf returns a field for each of so many columns of a table of wide.
func fieldsOf(columns int) []api.Field {
	var l []api.Field
	for i := range columns {
		l = append(l, field("c"+strconv.Itoa(i), vInt(int64(100+i))))
	}
	return l
}

// P8.3
func TestFill(t *testing.T) {
	full := []api.Field{field("note", vText("n")), field("id", vLong(1)), field("seal", vBytes("\xff")), field("label", vText("l")), field("weight", vInt(2))}
	for _, c := range []struct {
		table api.Table
		l     []api.Field
		want  []api.Value
		e     api.Errno
	}{
		// The chapter's example.
		{example(), []api.Field{field("a", vInt(1))}, []api.Value{vInt(1), null}, api.OK},
		{example(), []api.Field{field("b", vText("x")), field("a", vInt(1))}, []api.Value{vInt(1), vText("x")}, api.OK},
		{goods(), full, []api.Value{vText("l"), vInt(2), vLong(1), vBytes("\xff"), vText("n")}, api.OK},
		// The Defaults of the columns that have no field.
		{goods(), []api.Field{field("id", vLong(1)), field("note", vText("n"))}, []api.Value{vText("new"), vInt(1), vLong(1), null, vText("n")}, api.OK},
		// A field that is null instead of a Default.
		{goods(), []api.Field{field("id", vLong(1)), field("note", vText("n")), field("weight", null)}, []api.Value{vText("new"), null, vLong(1), null, vText("n")}, api.OK},
		{goods(), []api.Field{field("id", vLong(1)), field("note", vText("n")), field("label", null)}, nil, api.ErrNull},
		// No field at all.
		{wide(10), nil, []api.Value{vInt(0), vInt(1), vInt(2), vInt(3), vInt(4), vInt(5), vInt(6), vInt(7), vInt(8), vInt(9)}, api.OK},
		{wide(1), []api.Field{}, []api.Value{vInt(0)}, api.OK},
		{example(), nil, nil, api.ErrNull},
		// A Default that is null in a column that is not Null.
		{goods(), []api.Field{field("id", vLong(1))}, nil, api.ErrNull},
		{goods(), []api.Field{field("note", vText("n"))}, nil, api.ErrNull},
		// 10 and 11 fields.
		{wide(10), fieldsOf(10), []api.Value{vInt(100), vInt(101), vInt(102), vInt(103), vInt(104), vInt(105), vInt(106), vInt(107), vInt(108), vInt(109)}, api.OK},
		{wide(10), fieldsOf(11), nil, api.ErrLimit},
		{example(), fieldsOf(10), nil, api.ErrColumn},
		{example(), fieldsOf(11), nil, api.ErrLimit},
		{example(), slices.Repeat([]api.Field{field("a", vInt(1))}, 10), nil, api.ErrTwice},
		{example(), slices.Repeat([]api.Field{field("a", vInt(1))}, 11), nil, api.ErrLimit},
		{example(), slices.Repeat([]api.Field{field("a", vInt(1))}, 100000), nil, api.ErrLimit},
		// Each error.
		{example(), []api.Field{field("c", vInt(1))}, nil, api.ErrColumn},
		{example(), []api.Field{field("", vInt(1))}, nil, api.ErrColumn},
		{example(), []api.Field{field("A", vInt(1))}, nil, api.ErrColumn},
		{example(), []api.Field{field("a", vInt(1)), field("t", vInt(1))}, nil, api.ErrColumn},
		{example(), []api.Field{field("a", vInt(1)), field("a", vInt(1))}, nil, api.ErrTwice},
		{example(), []api.Field{field("a", vInt(1)), field("b", null), field("a", vInt(1))}, nil, api.ErrTwice},
		{example(), []api.Field{field("a", vInt(1)), field("b", null), field("b", null)}, nil, api.ErrTwice},
		{example(), []api.Field{field("a", null)}, nil, api.ErrNull},
		{example(), []api.Field{field("a", vLong(1))}, nil, api.ErrRange},
		{example(), []api.Field{field("a", vInt(1)), field("b", vText("abcdef"))}, nil, api.ErrRange},
		{example(), []api.Field{field("a", vInt(1)), field("b", api.Value{N: 1})}, nil, api.ErrRange},
		// Two errors at once: the one named first, field by field.
		{example(), []api.Field{field("c", vInt(1)), field("a", vInt(1)), field("a", vInt(1))}, nil, api.ErrColumn},
		{example(), []api.Field{field("a", vInt(1)), field("a", vInt(1)), field("c", vInt(1))}, nil, api.ErrTwice},
		{example(), []api.Field{field("c", vInt(1)), field("c", vInt(1))}, nil, api.ErrColumn},
		{example(), []api.Field{field("a", null), field("c", vInt(1))}, nil, api.ErrColumn},
		{example(), []api.Field{field("a", vLong(1)), field("a", vInt(1))}, nil, api.ErrTwice},
		// The errors of the row come column by column, not field by field.
		{example(), []api.Field{field("b", vInt(1)), field("a", null)}, nil, api.ErrNull},
		{goods(), []api.Field{field("note", null), field("id", vInt(1))}, nil, api.ErrRange},
		{goods(), []api.Field{field("note", vInt(1)), field("id", null)}, nil, api.ErrNull},
	} {
		checkFill(t, c.table, c.l, c.want, c.e)
	}
}

// P8.3, P8.4: 11 fields are too many also of a table that could have them all,
// and a table that is not valid comes before all other errors.
func TestFieldsOfTablesThatAreNotRight(t *testing.T) {
	for _, table := range notRight() {
		for _, l := range [][]api.Field{nil, {field("a", vInt(1))}, {field("z", vInt(1))}, {field("a", vInt(1)), field("a", vInt(1))}, {field("a", null)}, fieldsOf(11)} {
			checkFill(t, table, l, nil, api.ErrArg)
			for _, row := range [][]api.Value{nil, {vInt(1), null}, {null}, make10(vInt(1))} {
				checkSet(t, table, row, l, nil, api.ErrArg)
			}
		}
	}
}

// P8.4
func TestSet(t *testing.T) {
	row := goodsRow()
	for _, c := range []struct {
		table api.Table
		row   []api.Value
		l     []api.Field
		want  []api.Value
		e     api.Errno
	}{
		{example(), []api.Value{vInt(1), null}, []api.Field{field("b", vText("x"))}, []api.Value{vInt(1), vText("x")}, api.OK},
		{example(), []api.Value{vInt(1), vText("x")}, []api.Field{field("b", null)}, []api.Value{vInt(1), null}, api.OK},
		{goods(), row, []api.Field{field("note", vText("n")), field("label", vText("l"))}, []api.Value{vText("l"), vInt(3), vLong(70), vBytes("\xff\x00"), vText("n")}, api.OK},
		{goods(), row, []api.Field{field("weight", vInt(8)), field("seal", null)}, []api.Value{vText("box"), vInt(8), vLong(70), null, vText("")}, api.OK},
		// The old value again, and no Default in place of null.
		{goods(), row, []api.Field{field("weight", vInt(3))}, row, api.OK},
		{goods(), []api.Value{vText("box"), null, vLong(70), null, vText("")}, []api.Field{field("note", vText("n"))}, []api.Value{vText("box"), null, vLong(70), null, vText("n")}, api.OK},
		// No field at all.
		{goods(), row, nil, row, api.OK},
		{goods(), row, []api.Field{}, row, api.OK},
		{wide(1), []api.Value{vInt(5)}, nil, []api.Value{vInt(5)}, api.OK},
		// 9 and 10 columns besides or with the key, and 11 fields.
		{wide(10), make10(vInt(5)), fieldsOf(10)[1:], []api.Value{vInt(5), vInt(101), vInt(102), vInt(103), vInt(104), vInt(105), vInt(106), vInt(107), vInt(108), vInt(109)}, api.OK},
		{wide(10), make10(vInt(5)), fieldsOf(10), nil, api.ErrKey},
		{wide(10), make10(vInt(5)), fieldsOf(11), nil, api.ErrLimit},
		{wide(10), make10(vInt(5)), fieldsOf(11)[1:], nil, api.ErrColumn},
		{example(), []api.Value{vInt(1), null}, slices.Repeat([]api.Field{field("b", null)}, 10), nil, api.ErrTwice},
		{example(), []api.Value{vInt(1), null}, slices.Repeat([]api.Field{field("b", null)}, 11), nil, api.ErrLimit},
		{example(), []api.Value{vInt(1), null}, slices.Repeat([]api.Field{field("z", null)}, 100000), nil, api.ErrLimit},
		// Each error.
		{goods(), nil, nil, nil, api.ErrForm},
		{goods(), row[:4], nil, nil, api.ErrForm},
		{goods(), append(goodsRow(), null), nil, nil, api.ErrForm},
		{example(), []api.Value{null, null}, nil, nil, api.ErrNull},
		{example(), []api.Value{vLong(1), null}, nil, nil, api.ErrRange},
		{goods(), row, []api.Field{field("z", vInt(1))}, nil, api.ErrColumn},
		{goods(), row, []api.Field{field("", vInt(1))}, nil, api.ErrColumn},
		{goods(), row, []api.Field{field("label", vText("l")), field("label", vText("l"))}, nil, api.ErrTwice},
		{goods(), row, []api.Field{field("label", vText("l")), field("note", vText("l")), field("label", vText("m"))}, nil, api.ErrTwice},
		{goods(), row, []api.Field{field("id", vLong(1))}, nil, api.ErrKey},
		{goods(), row, []api.Field{field("id", vLong(70))}, nil, api.ErrKey},
		{goods(), row, []api.Field{field("note", vText("n")), field("id", vLong(1))}, nil, api.ErrKey},
		{goods(), row, []api.Field{field("label", null)}, nil, api.ErrNull},
		{goods(), row, []api.Field{field("weight", vLong(1))}, nil, api.ErrRange},
		{goods(), row, []api.Field{field("seal", vBytes("abcd"))}, nil, api.ErrRange},
		{goods(), row, []api.Field{field("weight", api.Value{N: 1})}, nil, api.ErrRange},
		// Two errors at once: those of the row come first, even where a field
		// would mend it.
		{example(), []api.Value{vInt(1)}, fieldsOf(11), nil, api.ErrForm},
		{example(), []api.Value{null, null}, fieldsOf(11), nil, api.ErrNull},
		{example(), []api.Value{vInt(1), vInt(1)}, []api.Field{field("z", null)}, nil, api.ErrRange},
		{example(), []api.Value{vInt(1), vInt(1)}, []api.Field{field("b", null)}, nil, api.ErrRange},
		{example(), []api.Value{null, null}, []api.Field{field("a", vInt(1))}, nil, api.ErrNull},
		// Then the one named first, field by field.
		{goods(), row, []api.Field{field("z", null), field("id", null)}, nil, api.ErrColumn},
		{goods(), row, []api.Field{field("id", null), field("z", null)}, nil, api.ErrKey},
		{goods(), row, []api.Field{field("id", vLong(1)), field("id", vLong(1))}, nil, api.ErrKey},
		{goods(), row, []api.Field{field("note", vText("n")), field("note", vText("n")), field("id", vLong(1))}, nil, api.ErrTwice},
		{goods(), row, []api.Field{field("note", vText("n")), field("note", vText("n")), field("z", null)}, nil, api.ErrTwice},
		{goods(), row, []api.Field{field("note", vText("n")), field("z", null), field("note", vText("n"))}, nil, api.ErrColumn},
		{goods(), row, []api.Field{field("note", vInt(1)), field("id", vLong(1))}, nil, api.ErrKey},
		{goods(), row, []api.Field{field("note", null), field("z", null)}, nil, api.ErrColumn},
		// The errors of the result come column by column, not field by field.
		{goods(), row, []api.Field{field("note", null), field("weight", vLong(1))}, nil, api.ErrRange},
		{goods(), row, []api.Field{field("weight", vLong(1)), field("label", null)}, nil, api.ErrNull},
	} {
		checkSet(t, c.table, c.row, c.l, c.want, c.e)
	}
}

// P8.3, P8.4: all lists of up to three of some fields.
func TestFieldsAgainstTheDefinition(t *testing.T) {
	var fields []api.Field
	for _, s := range []string{"a", "b", "k", "z"} {
		for _, v := range []api.Value{null, vInt(1), vText("abc"), vText("abcdef"), {N: 1}} {
			fields = append(fields, field(s, v))
		}
	}
	table := api.Table{Name: "t", Key: 1, Next: 3, Cols: []api.Column{
		{Id: 0, Name: "a", Type: text(5), Null: true, Default: vText("x")},
		{Id: 1, Name: "k", Type: tInt},
		{Id: 2, Name: "b", Type: text(3)},
	}}
	withDefaults := altered(table, func(t *api.Table) { t.Cols[1].Default, t.Cols[2].Default = vInt(9), vText("b") })
	rows := [][]api.Value{{null, vInt(4), vText("b")}, {vText("a"), vInt(5), vText("")}, {null, null, vInt(1)}, {vInt(1), null, null}, {null}}
	for count := range 4 {
		eachFields(fields, count, func(l []api.Field) {
			for _, u := range []api.Table{table, withDefaults} {
				want, wantE := fillByDefinition(u, l)
				checkFill(t, u, l, want, wantE)
			}
			for _, row := range rows {
				want, wantE := setByDefinition(table, "k", row, l)
				checkSet(t, table, row, l, want, wantE)
			}
		})
	}
}

// P8.5
func TestCells(t *testing.T) {
	for _, c := range []struct {
		table api.Table
		row   []api.Value
		want  []api.Cell
		e     api.Errno
	}{
		{example(), []api.Value{vInt(1), null}, []api.Cell{{Name: "a", Type: tInt, Value: vInt(1)}, {Name: "b", Type: text(5)}}, api.OK},
		{goods(), goodsRow(), []api.Cell{
			{Name: "label", Type: text(5), Value: vText("box")},
			{Name: "weight", Type: tInt, Value: vInt(3)},
			{Name: "id", Type: tLong, Value: vLong(70)},
			{Name: "seal", Type: bytes(3), Value: vBytes("\xff\x00")},
			{Name: "note", Type: text(120), Value: vText("")},
		}, api.OK},
		{wide(1), []api.Value{vInt(7)}, []api.Cell{{Name: "c0", Type: tInt, Value: vInt(7)}}, api.OK},
		{api.Table{}, nil, nil, api.ErrArg},
		{api.Table{Name: "t"}, nil, nil, api.ErrArg},
		{wide(11), slices.Repeat([]api.Value{vInt(1)}, 11), nil, api.ErrArg},
		{example(), nil, nil, api.ErrForm},
		{example(), []api.Value{vInt(1)}, nil, api.ErrForm},
		{example(), []api.Value{vInt(1), null, null}, nil, api.ErrForm},
		{example(), []api.Value{null, vInt(1)}, nil, api.ErrNull},
		{example(), []api.Value{vInt(1), vInt(1)}, nil, api.ErrRange},
	} {
		if got, e := Cells(c.table, c.row); !slices.Equal(got, c.want) || e != c.e {
			t.Errorf("Cells(%v, %v) is %v, %d, want %v, %d", c.table, c.row, got, e, c.want, c.e)
		}
	}
	for _, table := range notRight() {
		if got, e := Cells(table, []api.Value{vInt(1), null}); len(got) != 0 || e != api.ErrArg {
			t.Errorf("Cells of %v is %v, %d", table, got, e)
		}
	}
	cells, e := Cells(wide(10), make10(vInt(5)))
	if len(cells) != 10 || cells[9].Name != "c9" || e != api.OK {
		t.Errorf("Cells of 10 columns is %v, %d", cells, e)
	}
}

// R3: no call modifies what it is given.
func TestArgumentsAreNotModified(t *testing.T) {
	for _, table := range slices.Concat([]api.Table{example(), goods(), wide(10)}, notRight()) {
		for _, row := range [][]api.Value{goodsRow(), {vInt(1), null}, {null, vInt(1)}, make10(vInt(1)), nil} {
			for _, l := range [][]api.Field{{field("a", vInt(2)), field("b", vText("y"))}, {field("b", vText("y"))}, {field("note", vText("n")), field("label", vText("l"))}, fieldsOf(10), fieldsOf(10)[1:], {field("label", null)}} {
				catalog := api.Catalog{Tables: []api.Table{table, goods()}}
				oldTable, oldRow, oldFields := altered(table, func(*api.Table) {}), slices.Clone(row), slices.Clone(l)
				oldCatalog := api.Catalog{Tables: []api.Table{oldTable, goods()}}
				RightTable(table)
				Right(catalog)
				Find(catalog, "goods")
				ById(catalog, 4)
				Col(table, "b")
				Key(table)
				Row(table, row)
				Fill(table, l)
				Set(table, row, l)
				Cells(table, row)
				SameTable(table, goods())
				Same(catalog, many(2))
				if !reflect.DeepEqual(catalog, oldCatalog) || !slices.Equal(row, oldRow) || !slices.Equal(l, oldFields) {
					t.Errorf("a call modified %v, %v or %v", table, row, l)
				}
			}
		}
	}
}

// R3: writing into a result changes neither an argument nor a later result.
func TestResultsAreNewMemory(t *testing.T) {
	table, row := goods(), goodsRow()
	fields := []api.Field{field("note", vText("n")), field("label", vText("l"))}
	all := append(slices.Clone(fields), field("id", vLong(1)))
	for _, call := range []func() []api.Value{
		func() []api.Value { l, _ := Fill(table, all); return l },
		func() []api.Value { l, _ := Set(table, row, fields); return l },
		func() []api.Value { l, _ := Set(table, row, nil); return l },
	} {
		result := call()
		want := slices.Clone(result)
		for i := range result {
			result[i] = vText("overwritten")
		}
		_ = append(result, vText("appended"))
		if later := call(); len(later) != 5 || !slices.Equal(later, want) {
			t.Errorf("after writing into the result it is %v, want %v", later, want)
		}
	}
	cells, _ := Cells(table, row)
	want := slices.Clone(cells)
	for i := range cells {
		cells[i] = api.Cell{Name: "overwritten"}
	}
	if later, _ := Cells(table, row); len(later) != 5 || !slices.Equal(later, want) {
		t.Errorf("after writing into the result Cells is %v, want %v", later, want)
	}
	if !SameTable(table, goods()) || !slices.Equal(row, goodsRow()) {
		t.Errorf("writing into results changed %v or %v", table, row)
	}
}

// R3: nothing of an argument is retained in a result.
func TestResultsAreKeptThoughArgumentsChange(t *testing.T) {
	table, row, fields := goods(), goodsRow(), []api.Field{field("note", vText("n"))}
	set, _ := Set(table, row, fields)
	cells, _ := Cells(table, row)
	for i := range row {
		row[i] = null
	}
	for i := range table.Cols {
		table.Cols[i] = api.Column{}
	}
	fields[0] = field("x", null)
	if want := append(goodsRow()[:4], vText("n")); !slices.Equal(set, want) {
		t.Errorf("Set's result became %v", set)
	}
	if want, _ := Cells(goods(), goodsRow()); !slices.Equal(cells, want) {
		t.Errorf("Cells' result became %v", cells)
	}
}
