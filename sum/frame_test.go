package sum_test

import (
	"bytes"
	"testing"

	"wayfinder/api"
	"wayfinder/frame"
	"wayfinder/sum"
)

// TestFrameDoesNotComeToTheTable: package frame works its answers out without the table, whatever it is given. It stands here, for the table is seen from this package alone.
func TestFrameDoesNotComeToTheTable(t *testing.T) {
	whole, err := frame.Bytes([]byte{1, 2, 3})
	if err != api.OK {
		t.Fatal("Bytes", err)
	}
	turned := bytes.Clone(whole)
	turned[9] ^= 1
	inputs := [][]byte{nil, {1}, whole, turned, whole[:9], append(bytes.Clone(whole), whole...), make([]byte, 1000)}
	for name, call := range map[string]func(b []byte){
		"Bytes": func(b []byte) { frame.Bytes(b) },
		"Size":  func(b []byte) { frame.Size(len(b)) },
		"One":   func(b []byte) { frame.One(b) },
		"Scan":  func(b []byte) { frame.Scan(b) },
		"All":   func(b []byte) { frame.All(b) },
	} {
		sum.Unfill()
		for _, b := range inputs {
			call(b)
		}
		if sum.Filled() {
			t.Errorf("%s comes to the table", name)
		}
	}
	if sum.More(0, nil); !sum.Filled() {
		t.Error("More does not come to the table, so nothing was seen here")
	}
}
