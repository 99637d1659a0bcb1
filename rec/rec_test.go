package rec

import (
	"cmp"
	"encoding/binary"
	"math"
	"slices"
	"strings"
	"testing"

	"chainman/api"
)

// cell is what a cell's record says.
type cell struct {
	place api.Place
	id    int
}

// kind is one of the four kinds of records: what is built of it, and what the document says of it.
type kind[T comparable] struct {
	name    string
	size    int
	put     func(T) (string, bool)
	get     func(string) (T, bool)
	bytes   func(T) string         // the record of one that may be
	told    func(string) (T, bool) // what as many bytes as a record has say, and whether that may be
	right   func(T) bool
	compare func(a, b T) int
	all     []T // of each field what may be at its edges, and what may not, each with each
}

// ids are such as may be, at the edges.
func ids() []int { return []int{0, 1, 2, 255, 256, 257, 65535, 65536, 1<<20 - 2, 1<<20 - 1} }

// noIDs are numbers that no id is: some have the bytes of an id, or its lowest bits.
func noIDs() []int {
	return []int{math.MinInt, -1 << 32, -1<<20 + 1, -1, 1 << 20, 1<<20 + 1, 1 << 24, 1<<31 - 1, 1 << 31, 1<<32 - 1, 1 << 32, 1<<32 + 1, 1<<62 + 1, math.MaxInt}
}

func coords() []int {
	return []int{-1 << 31, -1<<31 + 1, -1 << 24, -258, -1, 0, 1, 258, 1 << 24, 1<<31 - 2, 1<<31 - 1}
}

func noCoords() []int {
	return []int{math.MinInt, math.MinInt + 1, -1 << 32, -1<<31 - 1, 1 << 31, 1<<32 - 1, 1 << 32, math.MaxInt - 1<<31, math.MaxInt - 1<<31 + 1, math.MaxInt}
}

func dists() []int { return []int{0, 1, 255, 256, 1 << 32, 1<<62 - 1, 1 << 62} }

func noDists() []int {
	return []int{math.MinInt, math.MinInt + 1, -1 << 62, -1, 1<<62 + 1, math.MaxInt}
}

func kinds() []int { return []int{0, 1, 2, 3, 127, 128, 254, 255} }

func noKinds() []int { return []int{math.MinInt, -256, -1, 256, 257, 1 << 32, 1<<32 + 1, math.MaxInt} }

func lots() []int { return []int{0, 1, 256, 1<<62 - 1, 1 << 62, 1<<62 + 1, math.MaxInt} }

func noLots() []int { return []int{math.MinInt, math.MinInt + 1, -1 << 62, -1} }

func within(n, least, most int) bool { return least <= n && n <= most }

func isIDTold(n int) bool { return within(n, 0, 1<<20-1) }

func four(n int) string { return string(binary.BigEndian.AppendUint32(nil, uint32(n))) }

func eight(n int) string { return string(binary.BigEndian.AppendUint64(nil, uint64(n))) }

func one(n int) string { return string([]byte{byte(n)}) }

// fourAt answers what the four bytes of s from a place on say.
func fourAt(s string, at int) int { return int(binary.BigEndian.Uint32([]byte(s[at : at+4]))) }

// eightAt answers what the eight bytes of s from a place on say: below 0, if that is no number from 0 to 2^63 - 1.
func eightAt(s string, at int) int { return int(binary.BigEndian.Uint64([]byte(s[at : at+8]))) }

func cellKind() kind[cell] {
	right := func(c cell) bool {
		return within(c.place.X, -1<<31, 1<<31-1) && within(c.place.Y, -1<<31, 1<<31-1) && isIDTold(c.id)
	}
	var all []cell
	wide := append(coords(), noCoords()...)
	for _, x := range wide {
		for _, y := range wide {
			for _, id := range append(ids(), noIDs()...) {
				all = append(all, cell{api.Place{X: x, Y: y}, id})
			}
		}
	}
	return kind[cell]{
		name: "Cell", size: 12, all: all, right: right,
		put: func(c cell) (string, bool) { return PutCell(c.place, c.id) },
		get: func(s string) (cell, bool) {
			p, id, ok := GetCell(s)
			return cell{p, id}, ok
		},
		bytes: func(c cell) string { return four(c.place.X+1<<31) + four(c.place.Y+1<<31) + four(c.id) },
		told: func(s string) (cell, bool) {
			c := cell{api.Place{X: fourAt(s, 0) - 1<<31, Y: fourAt(s, 4) - 1<<31}, fourAt(s, 8)}
			return c, right(c)
		},
		compare: func(a, b cell) int {
			return cmp.Or(cmp.Compare(a.place.X, b.place.X), cmp.Compare(a.place.Y, b.place.Y), cmp.Compare(a.id, b.id))
		},
	}
}

func pairKind() kind[api.Pair] {
	right := func(p api.Pair) bool { return isIDTold(p.A) && isIDTold(p.B) && p.A < p.B }
	var all []api.Pair
	wide := append(ids(), noIDs()...)
	for _, a := range wide {
		for _, b := range wide {
			all = append(all, api.Pair{A: a, B: b})
		}
	}
	return kind[api.Pair]{
		name: "Pair", size: 8, all: all, right: right, put: PutPair, get: GetPair,
		bytes: func(p api.Pair) string { return four(p.A) + four(p.B) },
		told: func(s string) (api.Pair, bool) {
			p := api.Pair{A: fourAt(s, 0), B: fourAt(s, 4)}
			return p, right(p)
		},
		compare: func(a, b api.Pair) int { return cmp.Or(cmp.Compare(a.A, b.A), cmp.Compare(a.B, b.B)) },
	}
}

func edge(from, dist, id int, fresh bool) api.Edge {
	return api.Edge{From: from, Near: api.Near{Dist: dist, Id: id, New: fresh}}
}

// newByte answers the byte that tells whether an edge is New.
func newByte(fresh bool) int {
	if fresh {
		return 1
	}
	return 0
}

func edgeKind() kind[api.Edge] {
	right := func(e api.Edge) bool {
		return isIDTold(e.From) && within(e.Near.Dist, 0, 1<<62) && isIDTold(e.Near.Id)
	}
	var all []api.Edge
	wide := append(ids(), noIDs()...)
	for _, from := range wide {
		for _, dist := range append(dists(), noDists()...) {
			for _, id := range wide {
				all = append(all, edge(from, dist, id, false), edge(from, dist, id, true))
			}
		}
	}
	return kind[api.Edge]{
		name: "Edge", size: 17, all: all, right: right, put: PutEdge, get: GetEdge,
		bytes: func(e api.Edge) string {
			return four(e.From) + eight(e.Near.Dist) + four(e.Near.Id) + one(newByte(e.Near.New))
		},
		told: func(s string) (api.Edge, bool) {
			e := edge(fourAt(s, 0), eightAt(s, 4), fourAt(s, 12), s[16] == 1)
			return e, right(e) && s[16] <= 1
		},
		compare: func(a, b api.Edge) int {
			return cmp.Or(cmp.Compare(a.From, b.From), cmp.Compare(a.Near.Dist, b.Near.Dist), cmp.Compare(a.Near.Id, b.Near.Id), cmp.Compare(newByte(a.Near.New), newByte(b.Near.New)))
		},
	}
}

func drawKind() kind[Draw] {
	right := func(x Draw) bool {
		return isIDTold(x.Owner) && within(x.Kind, 0, 255) && x.Lot >= 0 && isIDTold(x.Id)
	}
	var all []Draw
	wide := append(ids(), noIDs()...)
	for _, owner := range wide {
		for _, k := range append(kinds(), noKinds()...) {
			for _, lot := range append(lots(), noLots()...) {
				for _, id := range wide {
					all = append(all, Draw{Owner: owner, Kind: k, Lot: lot, Id: id})
				}
			}
		}
	}
	return kind[Draw]{
		name: "Draw", size: 17, all: all, right: right, put: PutDraw, get: GetDraw,
		bytes: func(x Draw) string { return four(x.Owner) + one(x.Kind) + eight(x.Lot) + four(x.Id) },
		told: func(s string) (Draw, bool) {
			x := Draw{Owner: fourAt(s, 0), Kind: int(s[4]), Lot: eightAt(s, 5), Id: fourAt(s, 13)}
			return x, right(x)
		},
		compare: func(a, b Draw) int {
			return cmp.Or(cmp.Compare(a.Owner, b.Owner), cmp.Compare(a.Kind, b.Kind), cmp.Compare(a.Lot, b.Lot), cmp.Compare(a.Id, b.Id))
		},
	}
}

// fit answers those of all that may be.
func (k kind[T]) fit() []T {
	return slices.DeleteFunc(slices.Clone(k.all), func(x T) bool { return !k.right(x) })
}

func (k kind[T]) puts(t *testing.T, promise string, x T, want string) {
	t.Helper()
	if got, ok := k.put(x); !ok || got != want {
		t.Errorf("%s: Put%s(%v) = %x, %v, want %x", promise, k.name, x, got, ok, want)
	}
}

func (k kind[T]) putsNot(t *testing.T, x T) {
	t.Helper()
	if got, ok := k.put(x); ok || got != "" {
		t.Errorf("P14.1: Put%s(%v) = %x, %v, want none", k.name, x, got, ok)
	}
}

func (k kind[T]) gets(t *testing.T, promise, s string, want T) {
	t.Helper()
	if got, ok := k.get(s); !ok || got != want {
		t.Errorf("%s: Get%s(%x) = %v, %v, want %v", promise, k.name, s, got, ok, want)
	}
}

func (k kind[T]) getsNot(t *testing.T, s string) {
	t.Helper()
	var none T
	if got, ok := k.get(s); ok || got != none {
		t.Errorf("P14.2: Get%s(%.60x) of %d bytes = %v, %v, want none", k.name, s, len(s), got, ok)
	}
}

// asTold: bytes, as many as a record has, are read just as the document tells.
func (k kind[T]) asTold(t *testing.T, s string) {
	t.Helper()
	if x, ok := k.told(s); ok {
		k.gets(t, "P14.2", s, x)
	} else {
		k.getsNot(t, s)
	}
}

// bothWays: what the record is, and what is read of it.
func (k kind[T]) bothWays(t *testing.T, x T, record string) {
	t.Helper()
	k.puts(t, "P14.1", x, record)
	k.gets(t, "P14.2", record, x)
}

// TestSizes: how many bytes records have.
func TestSizes(t *testing.T) {
	if CellSize != 12 || PairSize != 8 || EdgeSize != 17 || DrawSize != 17 {
		t.Errorf("sizes %d, %d, %d, %d", CellSize, PairSize, EdgeSize, DrawSize)
	}
}

// TestCells: P14.1 and P14.2, cells as they are written down.
func TestCells(t *testing.T) {
	k := cellKind()
	k.bothWays(t, cell{}, "\x80\x00\x00\x00\x80\x00\x00\x00\x00\x00\x00\x00")
	k.bothWays(t, cell{api.Place{X: -1, Y: 258}, 0x0a0b0c}, "\x7f\xff\xff\xff\x80\x00\x01\x02\x00\x0a\x0b\x0c")
	k.bothWays(t, cell{api.Place{X: -1 << 31, Y: 1<<31 - 1}, 1<<20 - 1}, "\x00\x00\x00\x00\xff\xff\xff\xff\x00\x0f\xff\xff")
	k.bothWays(t, cell{api.Place{X: 1<<31 - 1, Y: -1 << 31}, 1}, "\xff\xff\xff\xff\x00\x00\x00\x00\x00\x00\x00\x01")
}

// TestPairs: P14.1 and P14.2, pairs as they are written down.
func TestPairs(t *testing.T) {
	k := pairKind()
	k.bothWays(t, api.Pair{A: 1, B: 2}, "\x00\x00\x00\x01\x00\x00\x00\x02")
	k.bothWays(t, api.Pair{A: 0, B: 1<<20 - 1}, "\x00\x00\x00\x00\x00\x0f\xff\xff")
	k.bothWays(t, api.Pair{A: 1<<20 - 2, B: 1<<20 - 1}, "\x00\x0f\xff\xfe\x00\x0f\xff\xff")
	for _, p := range []api.Pair{{}, {A: 2, B: 2}, {A: 2, B: 1}, {A: 1<<20 - 1, B: 1<<20 - 1}, {A: 1<<20 - 1, B: 0}, {A: -1, B: 0}, {A: 1<<20 - 1, B: 1 << 20}} {
		k.putsNot(t, p)
	}
	for _, s := range []string{
		"\x00\x00\x00\x00\x00\x00\x00\x00",
		"\x00\x00\x00\x02\x00\x00\x00\x02",
		"\x00\x00\x00\x02\x00\x00\x00\x01",
		"\x00\x0f\xff\xff\x00\x00\x00\x00",
		"\x00\x0f\xff\xff\x00\x10\x00\x00",
		"\xff\xff\xff\xff\x00\x00\x00\x00",
	} {
		k.getsNot(t, s)
	}
}

// TestEdges: P14.1 and P14.2, edges as they are written down; one may lead to where it comes from.
func TestEdges(t *testing.T) {
	k := edgeKind()
	k.bothWays(t, edge(0, 0, 0, false), strings.Repeat("\x00", 17))
	k.bothWays(t, edge(1, 3, 2, true), "\x00\x00\x00\x01\x00\x00\x00\x00\x00\x00\x00\x03\x00\x00\x00\x02\x01")
	k.bothWays(t, edge(0x0a0b0c, 0x0102030405060708, 0x0d0e0f, false), "\x00\x0a\x0b\x0c\x01\x02\x03\x04\x05\x06\x07\x08\x00\x0d\x0e\x0f\x00")
	k.bothWays(t, edge(1<<20-1, 1<<62, 1<<20-1, true), "\x00\x0f\xff\xff\x40\x00\x00\x00\x00\x00\x00\x00\x00\x0f\xff\xff\x01")
	k.putsNot(t, edge(1, 1<<62+1, 2, false))
	k.getsNot(t, "\x00\x00\x00\x01\x40\x00\x00\x00\x00\x00\x00\x01\x00\x00\x00\x02\x00")
	k.getsNot(t, "\x00\x00\x00\x01\x00\x00\x00\x00\x00\x00\x00\x03\x00\x00\x00\x02\x02")
}

// TestDraws: P14.1 and P14.2, draws as they are written down; an owner may draw itself.
func TestDraws(t *testing.T) {
	k := drawKind()
	k.bothWays(t, Draw{}, strings.Repeat("\x00", 17))
	k.bothWays(t, Draw{Owner: 0x0a0b0c, Kind: 3, Lot: 0x0102030405060708, Id: 0x0d0e0f}, "\x00\x0a\x0b\x0c\x03\x01\x02\x03\x04\x05\x06\x07\x08\x00\x0d\x0e\x0f")
	k.bothWays(t, Draw{Owner: 1<<20 - 1, Kind: 255, Lot: math.MaxInt, Id: 1<<20 - 1}, "\x00\x0f\xff\xff\xff\x7f\xff\xff\xff\xff\xff\xff\xff\x00\x0f\xff\xff")
	k.putsNot(t, Draw{Owner: 1, Kind: 256, Lot: 1, Id: 1})
	k.putsNot(t, Draw{Owner: 1, Kind: 1, Lot: -1, Id: 1})
	k.getsNot(t, "\x00\x00\x00\x01\x00\x80\x00\x00\x00\x00\x00\x00\x00\x00\x00\x00\x02")
}

func putAll[T comparable](t *testing.T, k kind[T]) {
	t.Helper()
	count := 0
	for _, x := range k.all {
		if k.right(x) {
			count++
			k.puts(t, "P14.1", x, k.bytes(x))
		} else {
			k.putsNot(t, x)
		}
	}
	if count < 40 || count == len(k.all) {
		t.Errorf("%d of %d %s records may be", count, len(k.all), k.name)
	}
}

// TestPutAll: P14.1, at the edges of each field, each with each.
func TestPutAll(t *testing.T) {
	putAll(t, cellKind())
	putAll(t, pairKind())
	putAll(t, edgeKind())
	putAll(t, drawKind())
}

// getAll reads records of which all that stands in one field is exchanged for each of others.
func getAll[T comparable](t *testing.T, k kind[T], fields []int) {
	t.Helper()
	for _, x := range k.fit() {
		s := k.bytes(x)
		k.gets(t, "P14.2", s, x)
		at := 0
		for _, size := range fields {
			for _, other := range []uint64{0, 1, 2, 3, 127, 128, 255, 1<<20 - 1, 1 << 20, 1<<20 + 1, 1 << 31, 1<<32 - 1, 1 << 62, 1<<62 + 1, 1<<63 - 1, 1 << 63, 1<<64 - 1} {
				full := string(binary.BigEndian.AppendUint64(nil, other))
				k.asTold(t, s[:at]+full[8-size:]+s[at+size:])
			}
			at += size
		}
		if at != k.size {
			t.Fatalf("the fields of a %s have %d bytes", k.name, at)
		}
	}
}

// TestGetAll: P14.2, of records whose fields say what may be, and what may not.
func TestGetAll(t *testing.T) {
	getAll(t, cellKind(), []int{4, 4, 4})
	getAll(t, pairKind(), []int{4, 4})
	getAll(t, edgeKind(), []int{4, 8, 4, 1})
	getAll(t, drawKind(), []int{4, 1, 8, 4})
}

func getBytes[T comparable](t *testing.T, k kind[T]) {
	t.Helper()
	l := k.fit()
	for i := 0; i < len(l); i += 1 + len(l)/40 {
		s := []byte(k.bytes(l[i]))
		for at := range s {
			was := s[at]
			for b := range 256 {
				s[at] = byte(b)
				k.asTold(t, string(s))
			}
			s[at] = was
		}
	}
}

// TestGetBytes: P14.2, whatever stands in each byte of a record.
func TestGetBytes(t *testing.T) {
	getBytes(t, cellKind())
	getBytes(t, pairKind())
	getBytes(t, edgeKind())
	getBytes(t, drawKind())
}

func getSizes[T comparable](t *testing.T, k kind[T]) {
	t.Helper()
	l := k.fit()
	for i := 0; i < len(l); i += 1 + len(l)/100 {
		s := k.bytes(l[i])
		for at := range s {
			k.getsNot(t, s[:at])
			k.getsNot(t, s[at+1:])
		}
		for _, more := range []string{"\x00", "\x01", "\n", "\xff\xff", four(1), s, strings.Repeat("\x00", 1000)} {
			k.getsNot(t, s+more)
			k.getsNot(t, more+s)
		}
	}
	for length := range 70 {
		for _, b := range []string{"\x00", "\x01", "\x7f", "\x80", "\xff"} {
			s := strings.Repeat(b, length)
			if length == k.size {
				k.asTold(t, s)
			} else {
				k.getsNot(t, s)
			}
		}
	}
}

// TestGetSizes: P14.2, zero and false of fewer bytes, and of more.
func TestGetSizes(t *testing.T) {
	getSizes(t, cellKind())
	getSizes(t, pairKind())
	getSizes(t, edgeKind())
	getSizes(t, drawKind())
}

// back: what is written is read, and what is written of what was read is the same.
func back[T comparable](t *testing.T, k kind[T]) {
	t.Helper()
	for _, x := range k.fit() {
		s, ok := k.put(x)
		if !ok || len(s) != k.size {
			t.Errorf("P14.3: the record of %v has %d bytes, %v", x, len(s), ok)
		}
		k.gets(t, "P14.3", s, x)
		again, _ := k.get(s)
		k.puts(t, "P14.3", again, s)
	}
}

// TestBack: P14.3, what is written is read.
func TestBack(t *testing.T) {
	back(t, cellKind())
	back(t, pairKind())
	back(t, edgeKind())
	back(t, drawKind())
}

// order: records that are sorted stand as what they say, and no two are alike.
func order[T comparable](t *testing.T, k kind[T]) {
	t.Helper()
	l := k.fit()
	var records []string
	for _, x := range l {
		s, _ := k.put(x)
		records = append(records, s)
	}
	slices.Sort(records)
	slices.SortFunc(l, k.compare)
	for i, x := range l {
		if got, ok := k.get(records[i]); !ok || got != x {
			t.Fatalf("P14.3: record %d of the sorted %s records says %v, %v, want %v", i, k.name, got, ok, x)
		}
		if i > 0 && records[i-1] == records[i] {
			t.Fatalf("P14.3: %v and %v have one record", l[i-1], x)
		}
	}
}

// TestOrder: P14.3, records stand in the order of what they say.
func TestOrder(t *testing.T) {
	order(t, cellKind())
	order(t, pairKind())
	order(t, edgeKind())
	order(t, drawKind())
}

// ahead: the records stand as they are told.
func ahead[T comparable](t *testing.T, k kind[T], l ...T) {
	t.Helper()
	for i := range l[1:] {
		a, _ := k.put(l[i])
		b, _ := k.put(l[i+1])
		if a == "" || a >= b {
			t.Errorf("P14.3: %v does not stand ahead of %v: %x, %x", l[i], l[i+1], a, b)
		}
	}
}

// TestOrderFields: P14.3, which field is looked at ahead of which; an edge that is not New stands ahead of one that is.
func TestOrderFields(t *testing.T) {
	ahead(t, cellKind(), cell{api.Place{X: -3, Y: 5}, 9}, cell{api.Place{X: -1, Y: -9}, 8}, cell{api.Place{X: -1, Y: 0}, 7}, cell{api.Place{X: 0, Y: -1}, 6}, cell{api.Place{X: 0, Y: -1}, 300}, cell{api.Place{X: 0, Y: 2}, 0}, cell{api.Place{X: 256, Y: -2}, 0})
	ahead(t, pairKind(), api.Pair{A: 0, B: 1000}, api.Pair{A: 1, B: 2}, api.Pair{A: 1, B: 256}, api.Pair{A: 2, B: 3})
	ahead(t, edgeKind(), edge(1, 900, 9, true), edge(2, 3, 700, true), edge(2, 4, 5, false), edge(2, 4, 5, true), edge(2, 4, 6, false), edge(2, 256, 1, false), edge(256, 0, 0, false))
	ahead(t, drawKind(), Draw{1, 9, 9, 9}, Draw{2, 0, 1 << 60, 9}, Draw{2, 1, 5, 700}, Draw{2, 1, 6, 3}, Draw{2, 1, 6, 256}, Draw{2, 2, 0, 0}, Draw{2, 128, 0, 0}, Draw{256, 0, 0, 0})
}

// TestManyAsked: what was asked ahead does not matter, nor what was wrong then.
func TestManyAsked(t *testing.T) {
	k := edgeKind()
	good, bad := edge(1, 2, 3, true), edge(1, -2, 3, true)
	for range 3 {
		k.puts(t, "P14.1", good, k.bytes(good))
		k.putsNot(t, bad)
		k.getsNot(t, k.bytes(bad))
		k.gets(t, "P14.2", k.bytes(good), good)
	}
}
