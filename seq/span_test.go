package seq_test

import (
	"fmt"
	"math"
	"slices"
	"testing"

	"longwire/seq"
)

const highest = math.MaxUint32

// collected tells the numbers of a range; one that tells more than it ever should is stopped.
func collected(t *testing.T, numbers func(yield func(n uint32) bool)) []uint32 {
	t.Helper()
	var l []uint32
	for n := range numbers {
		if len(l) == 1000 {
			t.Fatalf("it does not end: %d ..", l[:10])
		}
		l = append(l, n)
	}
	return l
}

// wantNumbers holds the numbers of a range against what they must be.
func wantNumbers(t *testing.T, name string, numbers func(yield func(n uint32) bool), want []uint32) {
	t.Helper()
	if got := collected(t, numbers); !slices.Equal(got, want) {
		t.Errorf("%s: %d, want %d", name, got, want)
	}
}

// listed is a span with its numbers, written down one by one.
type listed struct {
	span    seq.Span
	numbers []uint32
}

// shortSpans tells spans that are empty, of one number, of some, and at the numbers' ends.
func shortSpans() []listed {
	return []listed{
		{seq.Span{}, nil},
		{seq.Span{From: 5, To: 5}, nil},
		{seq.Span{From: 5, To: 4}, nil},
		{seq.Span{From: 1, To: 0}, nil},
		{seq.Span{From: highest, To: 0}, nil},
		{seq.Span{From: 1 << 31, To: 0}, nil},
		{seq.Span{From: highest, To: highest - 1}, nil},
		{seq.Span{From: highest, To: highest}, nil},
		{seq.Span{From: 0, To: 1}, []uint32{0}},
		{seq.Span{From: 7, To: 8}, []uint32{7}},
		{seq.Span{From: highest - 1, To: highest}, []uint32{highest - 1}},
		{seq.Span{From: 0, To: 2}, []uint32{0, 1}},
		{seq.Span{From: 3, To: 8}, []uint32{3, 4, 5, 6, 7}},
		{seq.Span{From: 1<<31 - 2, To: 1<<31 + 2}, []uint32{1<<31 - 2, 1<<31 - 1, 1 << 31, 1<<31 + 1}},
		{seq.Span{From: highest - 3, To: highest}, []uint32{highest - 3, highest - 2, highest - 1}},
	}
}

// P5.2: Len, and All of each span, rising.
func TestLenAndAll(t *testing.T) {
	for _, l := range shortSpans() {
		if got := l.span.Len(); got != len(l.numbers) {
			t.Errorf("%v: Len %d, want %d", l.span, got, len(l.numbers))
		}
		wantNumbers(t, fmt.Sprint(l.span), l.span.All(), l.numbers)
	}
}

// P5.2: Has of the numbers in a span, beside its ends, and far off.
func TestHas(t *testing.T) {
	for _, l := range shortSpans() {
		from, to := l.span.From, l.span.To
		beside := []uint32{0, 1, 5, 1 << 31, highest - 1, highest, from - 1, from, from + 1, to - 1, to, to + 1, from/2 + to/2}
		for _, n := range append(beside, l.numbers...) {
			if want := slices.Contains(l.numbers, n); l.span.Has(n) != want {
				t.Errorf("%v: Has(%d) is %t", l.span, n, !want)
			}
		}
	}
}

// P5.2: the longest spans: how many they have, what they have, and where their ranges begin.
func TestLongestSpans(t *testing.T) {
	for _, c := range []struct {
		span    seq.Span
		len     uint64
		outside []uint32
	}{
		{seq.Span{From: 0, To: highest}, 1<<32 - 1, []uint32{highest}},
		{seq.Span{From: 1, To: highest}, 1<<32 - 2, []uint32{0, highest}},
		{seq.Span{From: 0, To: highest - 1}, 1<<32 - 2, []uint32{highest - 1, highest}},
		{seq.Span{From: 0, To: 1<<31 + 1}, 1<<31 + 1, []uint32{1<<31 + 1, highest}},
		{seq.Span{From: 0, To: 1 << 31}, 1 << 31, []uint32{1 << 31, highest}},
		{seq.Span{From: 1<<31 - 1, To: highest}, 1 << 31, []uint32{0, 1<<31 - 2, highest}},
	} {
		if got := uint64(c.span.Len()); got != c.len {
			t.Errorf("%v: Len %d, want %d", c.span, got, c.len)
		}
		for _, n := range []uint32{c.span.From, c.span.From + 1, c.span.From + 1<<30, c.span.To - 1<<30, c.span.To - 1} {
			if !c.span.Has(n) {
				t.Errorf("%v: Has(%d) is false", c.span, n)
			}
		}
		for _, n := range c.outside {
			if c.span.Has(n) {
				t.Errorf("%v: Has(%d) is true", c.span, n)
			}
		}
		told := tellUntil(c.span.All(), 3)
		if want := []uint32{c.span.From, c.span.From + 1, c.span.From + 2}; !slices.Equal(told, want) {
			t.Errorf("%v: All begins with %d, want %d", c.span, told, want)
		}
	}
}

// tellUntil goes through a range, and stops it at the many-th number; what is told behind the stop is told here too.
func tellUntil(numbers func(yield func(n uint32) bool), many int) []uint32 {
	var told []uint32
	numbers(func(n uint32) bool {
		told = append(told, n)
		if len(told) > many+1000 {
			panic("it does not stop")
		}
		return len(told) < many
	})
	return told
}

// wantStops stops a range at each of its numbers: it must tell those up to the stop, and nothing more.
func wantStops(t *testing.T, name string, numbers func(yield func(n uint32) bool), want []uint32) {
	t.Helper()
	for many := 1; many <= len(want)+1; many++ {
		if got := tellUntil(numbers, many); !slices.Equal(got, want[:min(many, len(want))]) {
			t.Errorf("%s, stopped at the number %d: %d, want %d", name, many, got, want[:min(many, len(want))])
		}
	}
}

// P5.2: All stopped at the first, at each middle, and at the last number.
func TestAllStopped(t *testing.T) {
	for _, l := range shortSpans() {
		wantStops(t, fmt.Sprint(l.span), l.span.All(), l.numbers)
	}
}

// P5.2: a range may be left by the loop that goes through it, and gone through again, from its front, also within itself.
func TestRangesAgain(t *testing.T) {
	all := seq.Span{From: 3, To: 6}.All()
	missing := seq.Span{From: 3, To: 7}.Missing(func(n uint32) bool { return n == 4 })
	for range all {
		break
	}
	for range missing {
		break
	}
	var pairs [][2]uint32
	for a := range all {
		for b := range missing {
			pairs = append(pairs, [2]uint32{a, b})
		}
	}
	want := [][2]uint32{{3, 3}, {3, 5}, {3, 6}, {4, 3}, {4, 5}, {4, 6}, {5, 3}, {5, 5}, {5, 6}}
	if !slices.Equal(pairs, want) {
		t.Errorf("%d, want %d", pairs, want)
	}
}

// P5.2: a range's numbers are those of the span that it was asked of, whatever becomes of the variable.
func TestSpanIsAValue(t *testing.T) {
	s := seq.Span{From: 3, To: 5}
	all, missing := s.All(), s.Missing(func(n uint32) bool { return false })
	s.From, s.To = 100, 200
	wantNumbers(t, "All", all, []uint32{3, 4})
	wantNumbers(t, "Missing", missing, []uint32{3, 4})
}

// oneOf tells a have of some numbers.
func oneOf(l ...uint32) func(n uint32) bool {
	return func(n uint32) bool { return slices.Contains(l, n) }
}

func everyNumber(n uint32) bool { return true }
func noNumber(n uint32) bool    { return false }

// P5.2: the chapter's example.
func TestMissingExample(t *testing.T) {
	wantNumbers(t, "3 to 8", seq.Span{From: 3, To: 8}.Missing(oneOf(4, 5)), []uint32{3, 6, 7})
}

// haves tells of some numbers each set that may be had, told as the bits of a number.
func haves(numbers []uint32) [][]uint32 {
	var all [][]uint32
	for bits := range 1 << len(numbers) {
		var had []uint32
		for i, n := range numbers {
			if bits>>i&1 == 1 {
				had = append(had, n)
			}
		}
		all = append(all, had)
	}
	return all
}

// without tells the numbers that are not had.
func without(numbers, had []uint32) []uint32 {
	return slices.DeleteFunc(slices.Clone(numbers), oneOf(had...))
}

// P5.2: what is missing, of all, of none, and of each few that may be had, in a span and around it.
func TestMissing(t *testing.T) {
	for _, l := range shortSpans() {
		name := fmt.Sprint(l.span)
		wantNumbers(t, name+" of all", l.span.Missing(everyNumber), nil)
		wantNumbers(t, name+" of none", l.span.Missing(noNumber), l.numbers)
		wantNumbers(t, name+" of others", l.span.Missing(oneOf(l.span.From-1, l.span.To, l.span.To+1)), l.numbers)
		for _, had := range haves(l.numbers) {
			wantNumbers(t, fmt.Sprintf("%s of %d", name, had), l.span.Missing(oneOf(had...)), without(l.numbers, had))
		}
	}
}

// P5.2: Missing stopped at the first, at each middle, and at the last number.
func TestMissingStopped(t *testing.T) {
	for _, l := range shortSpans() {
		for _, had := range haves(l.numbers) {
			wantStops(t, fmt.Sprintf("%v of %d", l.span, had), l.span.Missing(oneOf(had...)), without(l.numbers, had))
		}
	}
}

// event is what happens as a range goes through what is missing: a number is asked, or told.
type event struct {
	what   string
	number uint32
}

// happens tells all that happens, in its order, till a range is stopped at the many-th number that it is told.
func happens(s seq.Span, had []uint32, many int) []event {
	var l []event
	missing := s.Missing(func(n uint32) bool {
		l = append(l, event{"asked", n})
		return slices.Contains(had, n)
	})
	l = append(l, event{"made", 0})
	missing(func(n uint32) bool {
		l = append(l, event{"told", n})
		many--
		return many > 0
	})
	return l
}

// shouldHappen tells what must happen: each number is asked when the range comes to it, and told ahead of the next one.
func shouldHappen(numbers, had []uint32, many int) []event {
	l := []event{{"made", 0}}
	for _, n := range numbers {
		l = append(l, event{"asked", n})
		if slices.Contains(had, n) {
			continue
		}
		l = append(l, event{"told", n})
		if many--; many == 0 {
			break
		}
	}
	return l
}

// P5.2: have is asked of each number just once, and only when the range comes to it: behind a stop nothing more is asked.
func TestWhenHaveIsAsked(t *testing.T) {
	for _, l := range shortSpans() {
		for _, had := range haves(l.numbers) {
			for many := 1; many <= len(l.numbers)+1; many++ {
				got, want := happens(l.span, had, many), shouldHappen(l.numbers, had, many)
				if !slices.Equal(got, want) {
					t.Errorf("%v of %d, stopped at the number %d: %v, want %v", l.span, had, many, got, want)
				}
			}
		}
	}
}

// P5.2: the first numbers that miss in the longest span are told without the others being asked.
func TestMissingOfTheLongest(t *testing.T) {
	asked := 0
	missing := seq.Span{From: 0, To: highest}.Missing(func(n uint32) bool {
		asked++
		return n%2 == 0
	})
	if got := tellUntil(missing, 3); !slices.Equal(got, []uint32{1, 3, 5}) || asked != 6 {
		t.Errorf("%d, %d asked", got, asked)
	}
}

// P5.2: what have tells is asked anew by each range: nothing is kept of an earlier one.
func TestMissingIsAskedAnew(t *testing.T) {
	var had []uint32
	missing := seq.Span{From: 0, To: 4}.Missing(func(n uint32) bool { return slices.Contains(had, n) })
	wantNumbers(t, "none had", missing, []uint32{0, 1, 2, 3})
	had = []uint32{0, 2}
	wantNumbers(t, "some had", missing, []uint32{1, 3})
	had = []uint32{0, 1, 2, 3}
	wantNumbers(t, "all had", missing, nil)
	had = nil
	wantNumbers(t, "none had again", missing, []uint32{0, 1, 2, 3})
}

// wrongHaves tells haves that may not be: one that is not there, and one that panics.
func wrongHaves() []func(n uint32) bool {
	return []func(n uint32) bool{nil, func(n uint32) bool { panic("no answer") }}
}

// R1: a have that is not there, or that panics, has told of no number that it is had.
func TestMissingOfWrongHaves(t *testing.T) {
	for _, have := range wrongHaves() {
		for _, l := range shortSpans() {
			wantNumbers(t, fmt.Sprint(l.span), l.span.Missing(have), l.numbers)
		}
	}
	some := func(n uint32) bool {
		if n == 4 {
			panic("no answer")
		}
		return n == 5
	}
	wantNumbers(t, "3 to 8", seq.Span{From: 3, To: 8}.Missing(some), []uint32{3, 4, 6, 7})
}

// R1: a panic of the loop's own is passed on: it is not the range's.
func TestLoopsOwnPanic(t *testing.T) {
	for i, numbers := range []func(yield func(n uint32) bool){
		seq.Span{From: 3, To: 8}.All(), seq.Span{From: 3, To: 8}.Missing(noNumber), seq.Told(9, 7),
	} {
		told := 0
		func() {
			defer func() {
				if p := recover(); p != "the loop's" {
					t.Errorf("range %d: %v", i, p)
				}
			}()
			for range numbers {
				told++
				panic("the loop's")
			}
		}()
		if told != 1 {
			t.Errorf("range %d: %d told", i, told)
		}
	}
}
