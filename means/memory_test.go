package means_test

import (
	"fmt"
	"slices"
	"testing"

	"wayfinder/api"
	"wayfinder/means"
)

// spoil writes over all vectors, over their spare room and over that of the list.
func spoil(l [][]int32) {
	for _, v := range l {
		v = v[:cap(v)]
		for i := range v {
			v[i] = 77
		}
	}
	l = l[:cap(l)]
	for i := range l {
		l[i] = []int32{78}
	}
}

// roomy answers the same vectors in one row of memory, each with the next one as its spare room, and the list with spare room, too.
func roomy(l [][]int32) [][]int32 {
	row := append(slices.Concat(l...), 5, 6, 7)
	out := make([][]int32, 0, len(l)+2)
	at := 0
	for _, v := range l {
		out = append(out, row[at:at+len(v)])
		at += len(v)
	}
	_ = append(out, []int32{8}, []int32{9})
	return out
}

// whole answers all that stands in the list and behind it, as a copy.
func whole(l [][]int32) [][]int32 {
	var all [][]int32
	for _, v := range l[:cap(l)] {
		all = append(all, slices.Clone(v[:cap(v)]))
	}
	return all
}

// TestHandedIn: rule 3, points and cents that were handed in are not changed, their spare room neither, nor looked at later, between any two units.
func TestHandedIn(t *testing.T) {
	draw := draws(21)
	for _, dim := range []int{1, 2, 3} {
		for spoilAt := range 2*(6+1) + 1 {
			points, cents := roomy(drawn(draw, 6, dim, 9)), roomy(drawn(draw, 3, dim, 9))
			wasPoints, wasCents := whole(points), whole(cents)
			b := begun(t, points, cents, 2)
			for unit := range b.h.units() {
				if unit == spoilAt {
					break
				}
				b.step(t)
			}
			if !sameAll(whole(points), wasPoints) || !sameAll(whole(cents), wasCents) {
				t.Fatalf("unit %d: what was handed in was changed", spoilAt)
			}
			spoil(points)
			spoil(cents)
			wasPoints, wasCents = whole(points), whole(cents)
			for range b.h.units() + 1 - b.h.at {
				b.want(t, fmt.Sprint("spoiled at ", spoilAt))
				b.step(t)
			}
			if !sameAll(whole(points), wasPoints) || !sameAll(whole(cents), wasCents) {
				t.Fatalf("spoiled at %d: what was handed in was changed behind", spoilAt)
			}
		}
	}
}

// TestRunCostHandedIn: rule 3, Run and Cost change nothing of what they were handed, nor does what is changed later change what Run answered.
func TestRunCostHandedIn(t *testing.T) {
	draw := draws(22)
	for _, iters := range []int{1, 2, 5} {
		points, cents := roomy(drawn(draw, 8, 2, 20)), roomy(drawn(draw, 3, 2, 20))
		wasPoints, wasCents := whole(points), whole(cents)
		got, err := means.Run(points, cents, iters)
		cost, costErr := means.Cost(points, cents)
		if err != api.OK || costErr != api.OK || cost != costOf(points, cents) {
			t.Errorf("error %d, %d, cost %d", err, costErr, cost)
		}
		if !sameAll(whole(points), wasPoints) || !sameAll(whole(cents), wasCents) {
			t.Errorf("%d rounds: what was handed in was changed", iters)
		}
		want := cloned(got)
		spoil(points)
		spoil(cents)
		wantCents(t, "what was handed in is spoiled", got, want)
	}
}

// TestOneList: rule 3, the same list may be handed in as points and as cents, and one vector may stand in them several times.
func TestOneList(t *testing.T) {
	one := []int32{4, -4}
	for _, l := range [][][]int32{{one, one, one}, {{1, 2}, one, {5, 5}, one}} {
		was := cloned(l)
		b := begun(t, l, l, 3)
		b.live(t, "one list")
		wantRun(t, l, l, b.h)
		if !sameAll(l, was) {
			t.Errorf("the list was changed: %v, want %v", l, was)
		}
	}
	b := begun(t, ones(0, 10, 20), [][]int32{one[:1], one[:1], one[1:]}, 4)
	b.live(t, "cents that share memory")
}

// TestCentsOfTheirOwn: rule 3, whoever changes cents that were answered, or appends to them, changes nothing of the means and no other cents, between any two units.
func TestCentsOfTheirOwn(t *testing.T) {
	draw := draws(23)
	for _, dim := range []int{1, 2, 5} {
		b := begun(t, drawn(draw, 5, dim, 30), drawn(draw, 3, dim, 30), 3)
		var told, kept [][][]int32
		var wants [][][]int32
		for range b.h.units() + 2 {
			kept, wants = append(kept, b.m.Cents()), append(wants, cloned(b.h.cents))
			cents := b.m.Cents()
			for _, v := range cents {
				_ = append(v, 1, 2, 3)
			}
			_ = append(cents, []int32{1})
			spoil(cents)
			told = append(told, cents)
			b.want(t, "spoiled")
			b.step(t)
		}
		for i := range told {
			wantCents(t, fmt.Sprint("cents kept from unit ", i), kept[i], wants[i])
			if slices.ContainsFunc(told[i], func(v []int32) bool { return !slices.Equal(v, []int32{78}) }) {
				t.Errorf("cents of unit %d were changed behind: %v", i, told[i])
			}
		}
	}
}

// TestCentsApart: rule 3, of the cents of one answer none shares memory with another one, their spare room neither.
func TestCentsApart(t *testing.T) {
	draw := draws(24)
	points, cents := drawn(draw, 5, 3, 30), drawn(draw, 4, 3, 30)
	m, err := means.New(points, cents, 2)
	if err != api.OK {
		t.Fatal(err)
	}
	run, err := means.Run(points, cents, 2)
	if err != api.OK {
		t.Fatal(err)
	}
	for _, answer := range [][][]int32{m.Cents(), run} {
		for i, v := range answer {
			was := cloned(answer)
			v = v[:cap(v)]
			for j := range v {
				v[j] = 77
			}
			for j := range answer {
				if j != i && !slices.Equal(answer[j], was[j]) {
					t.Errorf("cent %d was changed by cent %d", j, i)
				}
			}
		}
	}
}

// TestNoneShared: rule 3, means of the same points do not touch each other.
func TestNoneShared(t *testing.T) {
	draw := draws(25)
	points, cents := drawn(draw, 7, 2, 30), drawn(draw, 3, 2, 30)
	one, other := begun(t, points, cents, 3), begun(t, points, cents, 2)
	for range one.h.units() {
		one.step(t)
		other.want(t, "the other")
		if draw(2) == 0 {
			other.step(t)
		}
		one.want(t, "the one")
	}
}
