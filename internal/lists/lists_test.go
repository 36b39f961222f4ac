package lists_test

import (
	"slices"
	"testing"

	"logjam/internal/lists"
)

func TestRoomHasTheSameAndTwoMoreBehind(t *testing.T) {
	for _, l := range [][]int{nil, {}, {1}, {1, 2, 3}} {
		r := lists.Room(l, 7)
		if !slices.Equal(r, l) || !slices.Equal(r[:cap(r)], append(slices.Clone(l), 7, 7)) {
			t.Errorf("%v became %v, and %v with its room", l, r, r[:cap(r)])
		}
		if !lists.Apart(r, l) {
			t.Errorf("%v lies where %v lies", r, l)
		}
	}
}

func TestListsOfTheirOwnAreApart(t *testing.T) {
	a, b, c := []int{1, 2}, []int{1, 2}, make([]int, 0, 3)
	if !lists.Apart[int]() || !lists.Apart(a) || !lists.Apart(a, b) || !lists.Apart(a, b, c) {
		t.Error("they are not")
	}
	if !lists.Apart(nil, a, nil, []int{}, b, []int{}) {
		t.Error("lists without memory are not")
	}
}

func TestListsThatShareAreNotApart(t *testing.T) {
	a, b := lists.Room([]int{1, 2, 3}, 9), []int{1}
	for name, l := range map[string][]int{
		"all":                    a,
		"the first":              a[:1:1],
		"the last":               a[2:3:3],
		"the spare room":         a[3:5],
		"the end of it":          a[4:5],
		"one that shows nothing": a[:0],
		"the room of such a one": a[:0:1],
	} {
		if lists.Apart(a, l) || lists.Apart(l, a) || lists.Apart(b, a, nil, l) || lists.Apart(l, b, a) {
			t.Errorf("what is shared is not seen: %s", name)
		}
	}
	if lists.Apart(b, b) {
		t.Error("a list is apart from itself")
	}
	if !lists.Apart(a[:2:2], a[2:]) || !lists.Apart(a[:0:0], a) {
		t.Error("pieces that have no place in common are not apart")
	}
}
