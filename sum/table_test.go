package sum

import (
	"hash/crc32"
	"testing"
)

// TestTable: the section 'Ways', behind a More the table has of each of the 256 bytes what eight steps make of it.
func TestTable(t *testing.T) {
	More(0, nil)
	want := crc32.MakeTable(crc32.Castagnoli)
	for i := range want {
		if steps[i] != want[i] || eight(uint32(i)) != want[i] {
			t.Errorf("%d: the table has %#x, eight tells %#x, want %#x", i, steps[i], eight(uint32(i)), want[i])
		}
	}
}

// answers tells what each call answers.
func answers() [4]uint32 {
	b := []byte("123456789")
	return [4]uint32{Of(b), More(77, b), Join(77, 5, 9), Noughts(77, 9)}
}

// TestNoAnswerHangsOnTheTable: whatever stands in the table, each call answers the same, and none but the first fills it.
func TestNoAnswerHangsOnTheTable(t *testing.T) {
	want := answers()
	kept := steps
	defer func() { steps = kept }()
	for _, x := range []uint32{0, 1, 0xffffffff} {
		for i := range steps {
			steps[i] = x
		}
		if got := answers(); got != want {
			t.Errorf("a table of %#x: %#x, want %#x", x, got, want)
		}
		if steps[1] != x {
			t.Errorf("a table of %#x was filled again", x)
		}
	}
}
