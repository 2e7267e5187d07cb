package tape_test

import (
	"encoding/binary"
	"fmt"
	"hash/fnv"
	"math"
	"slices"
	"testing"

	"lookout/api"
	"lookout/tape"
)

type (
	row   = []complex128
	table = [][]complex128
	parts = [][]int16
)

var (
	inf   = math.Inf(1)
	nan   = math.NaN()
	minus = math.Copysign(0, -1)
	quiet = math.Float64frombits(0xfff8000000000abc)
	loud  = math.Float64frombits(0x7ff0000000000001)
)

const (
	huge    = math.MaxFloat64
	tiny    = 0x1p-1074
	rowsTop = 256     // rows of a table
	longTop = 16384   // numbers of a row
	allTop  = 262144  // numbers of a table
	textTop = 1048576 // bytes of one Feed
	least   = 31      // bytes of a frame without samples
)

// noFinite are the floats that are no finite numbers.
var noFinite = []float64{nan, quiet, loud, inf, -inf}

// times are finite ones of all kinds.
var times = []float64{0, minus, 1, -1, 2.5, -1e9, tiny, -tiny, huge, -huge, 0x1p-1022, math.Pi}

// units are such as may be, from the smallest to the greatest.
var units = []float64{tiny, 3 * tiny, 0x1p-1022, 0x1p-500, 0.1, 0.5, 1, 3, math.Pi, 1e5, 0x1p500, 0x1p1023, huge}

// noUnits may not be.
var noUnits = append([]float64{0, minus, -1, -tiny, -huge}, noFinite...)

// sides are numbers of rows and columns that a table may have.
var sides = [][2]int{
	{0, 0}, {1, 0}, {2, 0}, {255, 0}, {rowsTop, 0}, {1, 1}, {1, 2}, {2, 1}, {2, 3}, {3, 2}, {5, 7}, {1, 300}, {rowsTop, 1}, {255, 2}, {2, 257},
}

// largest are numbers of rows and columns of tables that are as large as may be.
var largest = [][2]int{{16, longTop}, {rowsTop, 1024}, {64, 4096}, {1, longTop}, {15, 16383}}

// tooLarge are numbers of rows and columns that a table may not have.
var tooLarge = [][2]int{{rowsTop + 1, 0}, {1000, 0}, {rowsTop + 1, 1}, {1, longTop + 1}, {2, longTop + 1}, {17, longTop}, {rowsTop, 1025}, {65, 4033}, {17, 15421}, {rowsTop, longTop}, {1, allTop + 1}}

// dice makes numbers from a counter, so that each run tries the same ones.
type dice uint64

func (d *dice) next() uint64 {
	*d += 0x9e3779b97f4a7c15
	z := uint64(*d)
	z = (z ^ z>>30) * 0xbf58476d1ce4e5b9
	z = (z ^ z>>27) * 0x94d049bb133111eb
	return z ^ z>>31
}

// below is a whole number from 0 to n - 1.
func (d *dice) below(n int) int { return int(d.next() % uint64(n)) }

// wide is a float whose magnitude is from 2^-spread to below 2^spread.
func (d *dice) wide(spread int) float64 {
	m := 1 + float64(d.next()>>12)*0x1p-52
	return math.Copysign(math.Ldexp(m, d.below(2*spread)-spread), float64(int64(d.next())))
}

// part is a small number, at the ends more often than by chance.
func (d *dice) part() int16 {
	if d.below(4) == 0 {
		return []int16{0, 1, -1, 32767, 32766, -32768, -32767, 255, 256, -256}[d.below(10)]
	}
	return int16(d.next())
}

// frame is one that may be, of so many rows and columns.
func (d *dice) frame(rows, columns int) api.Frame {
	f := api.Frame{Time: d.wide(1000), Unit: math.Abs(d.wide(1000))}
	if d.below(3) == 0 {
		f.Time, f.Unit = times[d.below(len(times))], units[d.below(len(units))]
	}
	f.Re, f.Im = make(parts, rows), make(parts, rows)
	for p := range rows {
		f.Re[p], f.Im[p] = make([]int16, columns), make([]int16, columns)
		for g := range columns {
			f.Re[p][g], f.Im[p][g] = d.part(), d.part()
		}
	}
	return f
}

// some is a frame of few rows and columns.
func (d *dice) some() api.Frame {
	n := [][2]int{{0, 0}, {1, 0}, {3, 0}, {1, 1}, {1, 3}, {2, 2}, {4, 1}}[d.below(7)]
	return d.frame(n[0], n[1])
}

// rowsOf makes a table of so many rows and columns.
func rowsOf(n [2]int, each func(p, g int) complex128) table {
	l := make(table, n[0])
	for p := range l {
		l[p] = make(row, n[1])
		for g := range l[p] {
			l[p][g] = each(p, g)
		}
	}
	return l
}

// noughts are a frame's parts of so many rows and columns.
func noughts(n [2]int) parts {
	l := make(parts, n[0])
	for p := range l {
		l[p] = make([]int16, n[1])
	}
	return l
}

func sameFloat(x, y float64) bool { return math.Float64bits(x) == math.Float64bits(y) }

func sameNumber(a, b complex128) bool {
	return sameFloat(real(a), real(b)) && sameFloat(imag(a), imag(b))
}

func sameRows(a, b table) bool {
	return slices.EqualFunc(a, b, func(p, q row) bool { return slices.EqualFunc(p, q, sameNumber) })
}

func sameParts(a, b parts) bool {
	return slices.EqualFunc(a, b, func(p, q []int16) bool { return slices.Equal(p, q) })
}

func sameFrame(a, b api.Frame) bool {
	return sameFloat(a.Time, b.Time) && sameFloat(a.Unit, b.Unit) && sameParts(a.Re, b.Re) && sameParts(a.Im, b.Im)
}

func sameFrames(a, b []api.Frame) bool { return slices.EqualFunc(a, b, sameFrame) }

func short(f api.Frame) string {
	s := fmt.Sprintf("%+v", f)
	return s[:min(len(s), 200)]
}

func shorts(l []api.Frame) string {
	s := fmt.Sprint(len(l), " frames")
	for _, f := range l[:min(len(l), 4)] {
		s += " " + short(f)
	}
	return s
}

// wantNoFrame holds a refused Frame.
func wantNoFrame(t *testing.T, what string, rows table, time, unit float64, want api.Errno) {
	t.Helper()
	f, e := tape.Frame(rows, time, unit)
	if e != want || !sameFloat(f.Time, 0) || !sameFloat(f.Unit, 0) || len(f.Re)+len(f.Im) != 0 {
		t.Errorf("Frame of %s, %v, %v: %s, %v, want %v", what, time, unit, short(f), e, want)
	}
}

// record is a Frame that is not refused.
func record(t *testing.T, rows table, time, unit float64) api.Frame {
	t.Helper()
	f, e := tape.Frame(rows, time, unit)
	if e != api.OK {
		t.Fatalf("Frame of %d rows, %v, %v: %v", len(rows), time, unit, e)
	}
	return f
}

// rowsIn are Rows that are not refused.
func rowsIn(t *testing.T, f api.Frame) table {
	t.Helper()
	l, e := tape.Rows(f)
	if e != api.OK {
		t.Fatalf("Rows of %s: %v", short(f), e)
	}
	return l
}

// write is a Write that is not refused.
func write(t *testing.T, l ...api.Frame) []byte {
	t.Helper()
	var all []byte
	for _, f := range l {
		b, e := tape.Write(f)
		if e != api.OK {
			t.Fatalf("Write of %s: %v", short(f), e)
		}
		all = append(all, b...)
	}
	return all
}

// withRoom is the same bytes with room behind the end, and that room.
func withRoom(b []byte) ([]byte, []byte) {
	l := append(slices.Clone(b), "what stands behind the end of what was handed in"...)
	return l[:len(b)], l[len(b):]
}

// seal sets the sum behind bytes.
func seal(b []byte) []byte {
	h := fnv.New32a()
	h.Write(b)
	return h.Sum(slices.Clip(b))
}

// bytesOf are the bytes of a frame as the chapter's words tell them.
func bytesOf(f api.Frame) []byte {
	columns := 0
	if len(f.Re) > 0 {
		columns = len(f.Re[0])
	}
	b := begin(20+4*len(f.Re)*columns, f.Time, f.Unit, len(f.Re), columns)
	for p := range f.Re {
		for g := range columns {
			b = binary.BigEndian.AppendUint16(b, uint16(f.Re[p][g]))
			b = binary.BigEndian.AppendUint16(b, uint16(f.Im[p][g]))
		}
	}
	return seal(b)
}

// begin is what stands ahead of the samples.
func begin(long int, time, unit float64, rows, columns int) []byte {
	b := []byte{0x4c, 0x4b, 0x31}
	b = binary.BigEndian.AppendUint32(b, uint32(long))
	b = binary.BigEndian.AppendUint64(b, math.Float64bits(time))
	b = binary.BigEndian.AppendUint64(b, math.Float64bits(unit))
	b = binary.BigEndian.AppendUint16(b, uint16(rows))
	return binary.BigEndian.AppendUint16(b, uint16(columns))
}

// model is a reader as the chapter's words tell it: byte by byte.
type model struct {
	held []byte
	torn bool
}

func (m *model) feed(b []byte) ([]api.Frame, api.Errno) {
	if len(b) > textTop {
		return nil, api.ErrLong
	}
	if m.torn {
		return nil, api.ErrTorn
	}
	var told []api.Frame
	for _, x := range b {
		m.held = append(m.held, x)
		if m.wrong() {
			m.held, m.torn = nil, true
			return told, api.ErrTorn
		}
		if n := len(m.held); n >= least && n == 11+m.long() {
			told = append(told, m.frame())
			m.held = nil
		}
	}
	return told, api.OK
}

// long is how many bytes stand between the length and the sum.
func (m *model) long() int { return int(binary.BigEndian.Uint32(m.held[3:])) }

func (m *model) float(at int) float64 {
	return math.Float64frombits(binary.BigEndian.Uint64(m.held[at:]))
}

func (m *model) short(at int) int { return int(binary.BigEndian.Uint16(m.held[at:])) }

// wrong tells whether it is torn by the byte that came last.
func (m *model) wrong() bool {
	n := len(m.held)
	switch n {
	case 1, 2, 3:
		return m.held[n-1] != "\x4c\x4b\x31"[n-1]
	case 7:
		return m.long() < 20 || m.long()%4 != 0 || m.long() > 1048596
	case 23:
		time, unit := m.float(7), m.float(15)
		return time-time != 0 || unit-unit != 0 || !(unit > 0)
	case 27:
		rows, columns := m.short(23), m.short(25)
		return rows > 256 || columns > 16384 || rows == 0 && columns != 0 || 20+4*rows*columns != m.long()
	}
	return n >= least && n == 11+m.long() && !slices.Equal(m.held, seal(m.held[:n-4]))
}

func (m *model) frame() api.Frame {
	rows, columns := m.short(23), m.short(25)
	f := api.Frame{Time: m.float(7), Unit: m.float(15), Re: noughts([2]int{rows, columns}), Im: noughts([2]int{rows, columns})}
	for p := range rows {
		for g := range columns {
			at := 27 + 4*(p*columns+g)
			f.Re[p][g], f.Im[p][g] = int16(m.short(at)), int16(m.short(at+2))
		}
	}
	return f
}

// both is a reader and what it should be.
type both struct {
	t *testing.T
	r *tape.Reader
	m *model
}

func newBoth(t *testing.T) both {
	t.Helper()
	r := tape.New()
	if r == nil || r.Held() != 0 {
		t.Fatalf("New: %v", r)
	}
	return both{t, r, &model{}}
}

// feed feeds both, and tells what came of it.
func (x both) feed(b []byte) ([]api.Frame, api.Errno) {
	x.t.Helper()
	before := len(x.m.held)
	got, e := x.r.Feed(b)
	want, wantE := x.m.feed(b)
	if e != wantE || !sameFrames(got, want) {
		x.t.Fatalf("Feed of %d bytes (% x) behind %d: %s, %v, want %s, %v", len(b), b[:min(len(b), 99)], before, shorts(got), e, shorts(want), wantE)
	}
	if got, want := x.r.Held(), len(x.m.held); got != want {
		x.t.Fatalf("Held behind a Feed of %d bytes behind %d: %d, want %d", len(b), before, got, want)
	}
	return got, e
}

// pieces feeds both in pieces that the dice choose, until they are torn.
func (x both) pieces(d *dice, b []byte, most int) {
	x.t.Helper()
	for len(b) > 0 {
		n := min(len(b), d.below(most+1))
		if _, e := x.feed(b[:n]); e != api.OK {
			return
		}
		b = b[n:]
	}
}
