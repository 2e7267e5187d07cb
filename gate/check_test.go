package gate_test

import (
	"fmt"
	"testing"

	"lookout/api"
	"lookout/gate"
)

func TestP8_1Examples(t *testing.T) {
	b := ordinary()
	want := func(e api.Errno) {
		t.Helper()
		if got := gate.Check(b); got != e {
			t.Errorf("Check of %+v: %v, want %v", b, got, e)
		}
	}
	want(api.OK)
	b.Rate = 0
	want(api.ErrBeat)
	b = ordinary()
	b.Every = 16385
	want(api.ErrBeat)
	b.Every, b.Rows = 16384, 32
	want(api.ErrLong)
}

func TestP8_1May(t *testing.T) {
	for _, b := range manyBeats() {
		if e := gate.Check(b); e != api.OK {
			t.Fatalf("Check of %+v: %v", b, e)
		}
	}
	for _, x := range sizes {
		for _, n := range counts {
			if e := gate.Check(api.Beat{Cell: x, Wave: x, Rate: x, Every: n[0], Rows: n[1]}); e != api.OK {
				t.Fatalf("Check of %v, %v: %v", x, n, e)
			}
		}
	}
}

// TestP8_1Counts: all products about the greatest one that may be.
func TestP8_1Counts(t *testing.T) {
	for rows := 1; rows <= 256; rows++ {
		for _, every := range []int{1, 1<<18/rows - 1, 1 << 18 / rows, 1<<18/rows + 1, 1 << 14} {
			b := ordinary()
			b.Every, b.Rows = every, rows
			want := api.OK
			if every > 1<<14 {
				want = api.ErrBeat
			} else if every*rows > 1<<18 {
				want = api.ErrLong
			}
			if e := gate.Check(b); e != want {
				t.Fatalf("Check of Every %d, Rows %d: %v, want %v", every, rows, e, want)
			}
		}
	}
}

func TestP8_1Wrong(t *testing.T) {
	for _, x := range wrongBeats() {
		if e := gate.Check(x.beat); e != x.want {
			t.Errorf("Check of %+v: %v, want %v", x.beat, e, x.want)
		}
	}
}

// TestP8_1First: each other call answers Check's error, whatever else is wrong.
func TestP8_1First(t *testing.T) {
	for _, x := range wrongBeats() {
		for _, n := range []float64{1, 0, -1, nan, inf, -inf, 1e300, huge} {
			wantCell(t, x.beat, n, 0, 0, x.want)
			wantBin(t, x.beat, n, 0, x.want)
			wantSpeed(t, x.beat, n, 0, x.want)
		}
		for _, n := range [][2]int{{0, 0}, {1, 2}, {-1, 0}, {0, -1}, {100, 0}, {0, last}, {last, last}} {
			wantMetres(t, x.beat, n[0], n[1], 0, x.want)
		}
		wantBlind(t, x.beat, 0, 0, x.want)
	}
}

func TestP8_4Examples(t *testing.T) {
	b := ordinary()
	wantBlind(t, b, 1000, 1.25, api.OK)
	b.Every = 1
	wantBlind(t, b, 10, 125, api.OK)
	b.Rate = 3
	wantBlind(t, b, 10, 0.375, api.OK)
	b.Rows = 256
	wantBlind(t, b, 10, 0.375, api.OK)
}

func TestP8_4Steps(t *testing.T) {
	refused := 0
	for _, b := range manyBeats() {
		metres, speed, e := blindOf(b)
		wantBlind(t, b, metres, speed, e)
		if e != api.OK {
			refused++
		}
	}
	if refused < 100 {
		t.Errorf("%d are refused", refused)
	}
}

// TestP8_4Refused: each of the two alone, and seconds that are endless.
func TestP8_4Refused(t *testing.T) {
	for _, x := range []struct {
		beat          api.Beat
		metres, speed float64
		want          api.Errno
	}{
		{api.Beat{Cell: huge, Wave: 1, Rate: 1, Every: 1, Rows: 1}, huge, 0.5, api.OK},
		{api.Beat{Cell: huge, Wave: 1, Rate: 1, Every: 2, Rows: 1}, 0, 0, api.ErrFloat},
		{api.Beat{Cell: huge / 2, Wave: 1, Rate: 1, Every: 2, Rows: 1}, huge, 0.25, api.OK},
		{api.Beat{Cell: 1, Wave: huge, Rate: 2, Every: 1, Rows: 1}, 1, huge, api.OK},
		{api.Beat{Cell: 1, Wave: huge, Rate: 3, Every: 1, Rows: 1}, 0, 0, api.ErrFloat},
		{api.Beat{Cell: huge, Wave: huge, Rate: huge, Every: 2, Rows: 1}, 0, 0, api.ErrFloat},
		{api.Beat{Cell: 1, Wave: 1, Rate: tiny, Every: 1, Rows: 1}, 1, 0, api.OK},
		{api.Beat{Cell: 1, Wave: huge, Rate: tiny, Every: 3, Rows: 1}, 3, 0, api.OK},
		{api.Beat{Cell: 1, Wave: huge, Rate: 0x1p-1023, Every: 1, Rows: 1}, 1, 0, api.OK},
		{api.Beat{Cell: tiny, Wave: tiny, Rate: 1, Every: 2, Rows: 1}, 2 * tiny, 0, api.OK},
		{api.Beat{Cell: 1, Wave: 1, Rate: huge, Every: 1, Rows: 1}, 1, 0x1p1023, api.OK},
	} {
		wantBlind(t, x.beat, x.metres, x.speed, x.want)
	}
}

func ExampleCheck() {
	b := api.Beat{Cell: 10, Wave: 0.25, Rate: 1000, Every: 100, Rows: 8}
	fmt.Println(gate.Check(b) == api.OK)
	b.Every = 16385
	fmt.Println(gate.Check(b) == api.ErrBeat)
	// Output:
	// true
	// true
}

func ExampleBlind() {
	metres, speed, e := gate.Blind(api.Beat{Cell: 10, Wave: 0.25, Rate: 1000, Every: 100, Rows: 8})
	fmt.Println(metres, speed, e == api.OK)
	// Output: 1000 1.25 true
}
