package tape

import (
	"math"

	"lookout/api"
)

// head is what the bytes of each frame begin with.
const head = "LK1"

// Where the parts of a frame's bytes begin behind the head; a sum stands behind the samples.
const (
	lengthAt  = 3
	timeAt    = lengthAt + 4
	unitAt    = timeAt + 8
	rowsAt    = unitAt + 8
	columnsAt = rowsAt + 2
	samplesAt = columnsAt + 2
)

const (
	bodyBytes   = samplesAt - timeAt // of a frame without samples, behind its length
	sampleBytes = 4
	sumBytes    = 4
)

// Write tells a frame's bytes (P27.2).
func Write(f api.Frame) ([]byte, api.Errno) {
	if e := frameMayBe(f); e != api.OK {
		return nil, e
	}
	columns, _ := columnsOf(f.Re)
	samples := len(f.Re) * columns
	b := make([]byte, 0, samplesAt+samples*sampleBytes+sumBytes)
	b = append(b, head...)
	b = behind(b, uint64(bodyBytes+samples*sampleBytes), 4)
	b = behind(b, math.Float64bits(f.Time), 8)
	b = behind(b, math.Float64bits(f.Unit), 8)
	b = behind(b, uint64(len(f.Re)), 2)
	b = behind(b, uint64(columns), 2)
	for p, row := range f.Re {
		for g, re := range row {
			b = behind(b, uint64(uint16(re)), 2)
			b = behind(b, uint64(uint16(f.Im[p][g])), 2)
		}
	}
	return behind(b, uint64(sum(b)), sumBytes), api.OK
}

// behind sets a number of so many bytes behind b, the highest first.
func behind(b []byte, number uint64, bytes int) []byte {
	number <<= 64 - 8*bytes
	for range bytes {
		b = append(b, byte(number>>56))
		number <<= 8
	}
	return b
}

// number is what bytes tell, the highest first.
func number(b []byte) uint64 {
	var n uint64
	for _, x := range b {
		n <<= 8
		n |= uint64(x)
	}
	return n
}

// sum is the sum of bytes; it wraps round.
func sum(b []byte) uint32 {
	s := uint32(2166136261)
	for _, x := range b {
		s ^= uint32(x)
		s *= 16777619
	}
	return s
}

// measure tells how many bytes the frame has with which b begins, or 0 as long as some of them are not there. It is ErrTorn as soon as a part is there that no frame has.
func measure(b []byte) (int, api.Errno) {
	if start := min(len(b), len(head)); string(b[:start]) != head[:start] {
		return 0, api.ErrTorn
	}
	if len(b) < timeAt {
		return 0, api.OK
	}
	long := number(b[lengthAt:timeAt])
	if long < bodyBytes || long > bodyBytes+api.MaxCells*sampleBytes || (long-bodyBytes)%sampleBytes != 0 {
		return 0, api.ErrTorn
	}
	if len(b) >= rowsAt && numbersMayBe(float(b[timeAt:unitAt]), float(b[unitAt:rowsAt])) != api.OK {
		return 0, api.ErrTorn
	}
	if len(b) >= samplesAt && !fits(b, int(long-bodyBytes)/sampleBytes) {
		return 0, api.ErrTorn
	}
	size := timeAt + int(long) + sumBytes
	if len(b) < size {
		return 0, api.OK
	}
	if number(b[size-sumBytes:size]) != uint64(sum(b[:size-sumBytes])) {
		return 0, api.ErrTorn
	}
	return size, api.OK
}

// fits tells whether a table of so many samples may have the rows and columns that b tells.
func fits(b []byte, samples int) bool {
	rows, columns := shape(b)
	if tooLarge(rows, columns) || rows == 0 && columns > 0 {
		return false
	}
	return rows*columns == samples
}

func shape(b []byte) (rows, columns int) {
	return int(number(b[rowsAt:columnsAt])), int(number(b[columnsAt:samplesAt]))
}

func float(b []byte) float64 { return math.Float64frombits(number(b)) }

// read is the frame of which measure has found all bytes.
func read(b []byte) api.Frame {
	rows, columns := shape(b)
	f := blank(rows, columns, float(b[timeAt:unitAt]), float(b[unitAt:rowsAt]))
	at := samplesAt
	for p := range rows {
		for g := range columns {
			f.Re[p][g] = int16(number(b[at : at+2]))
			f.Im[p][g] = int16(number(b[at+2 : at+4]))
			at += sampleBytes
		}
	}
	return f
}
