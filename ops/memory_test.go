package ops_test

import (
	"slices"
	"testing"

	"backwash/api"
	"backwash/ops"
)

// roomy is a list with spare room behind it, and the whole of that room.
func roomy[T any](list []T, spare ...T) ([]T, []T) {
	whole := slices.Concat(list, spare)
	return whole[:len(list)], whole
}

// scribble writes over a list and its spare room.
func scribble[T any](list []T, x T) {
	list = list[:cap(list)]
	for i := range list {
		list[i] = x
	}
}

// roomyPorts are ports all of whose lists have spare room, and the whole of each list's room.
func roomyPorts(ports [][]api.Item) (bags, wholes [][]api.Item) {
	for _, b := range ports {
		b, whole := roomy(b, n(7, 77, 0), n(8, 78, 0), n(9, 79, 0))
		bags, wholes = append(bags, b), append(wholes, whole)
	}
	bags, room := roomy(bags, l(n(5, 55, 5)), l(n(6, 66, 6)), l(n(7, 77, 7)))
	return bags, append(wholes, room[len(bags):]...)
}

// copied is a copy of lists.
func copied(lists [][]api.Item) [][]api.Item {
	var all [][]api.Item
	for _, b := range lists {
		all = append(all, slices.Clone(b))
	}
	return all
}

// sameLists: are they alike, one by one?
func sameLists(a, b [][]api.Item) bool {
	return slices.EqualFunc(a, b, slices.Equal)
}

// Neither the bags, the list of them, the program, nor the spare room of any of these changes, and what stands in it plays no part.
func TestP11_1_NothingHandedInChanges(t *testing.T) {
	c := chance(6)
	for _, x := range nodes() {
		code, codeRoom := roomy(x.Prog, in(api.OpEmit), in(api.OpDrop))
		codeWas := slices.Clone(codeRoom)
		for i := range 200 {
			list := c.ports()
			if i == 0 {
				list = p(some(), other())
			}
			want, fits := slow(x, list)
			ports, wholes := roomyPorts(list)
			was := copied(wholes)
			got, ok := ops.Apply(api.Node{Kind: x.Kind, Scope: x.Scope, Arg: x.Arg, Prog: code}, ports)
			same(t, x, ports, got, ok, want, fits)
			if !sameLists(wholes, was) || !slices.Equal(codeRoom, codeWas) {
				t.Fatalf("%v: %s became %s", x, brief(was), brief(wholes))
			}
			// What is written over an answer is nothing to what was handed in,
			kept := slices.Clone(got)
			scribble(got, n(99, 99, 99))
			if !sameLists(wholes, was) || !slices.Equal(codeRoom, codeWas) {
				t.Fatalf("%v of %s: the answer shares its memory", x, brief(was))
			}
			// and what is written over that is nothing to a later answer.
			again, _ := ops.Apply(x, ports)
			for _, whole := range wholes {
				scribble(whole, n(98, 98, 98))
			}
			if !slices.Equal(again, kept) {
				t.Fatalf("%v of %s: %s became %s", x, brief(was), brief(kept), brief(again))
			}
		}
	}
}

// Where one list is handed in for several ports, it stays as it is, too.
func TestP11_1_OneListForAllPorts(t *testing.T) {
	for _, x := range nodes() {
		b, whole := roomy(some(), n(7, 77, 0), n(8, 78, 0))
		was := slices.Clone(whole)
		want, fits := slow(x, p(some(), some(), some()))
		got, ok := ops.Apply(x, p(b, b, b))
		same(t, x, p(b, b, b), got, ok, want, fits)
		scribble(got, n(99, 99, 99))
		if !slices.Equal(whole, was) {
			t.Fatalf("%v: %s became %s", x, brief(was), brief(whole))
		}
	}
}

// Answers share nothing with one another, and are the same each time.
func TestP11_1_AnswersAreTheirOwn(t *testing.T) {
	for _, x := range nodes() {
		one, ok := ops.Apply(x, p(some(), other()))
		two, also := ops.Apply(x, p(some(), other()))
		same(t, x, p(some(), other()), one, ok, two, also)
		want := slices.Clone(two)
		scribble(one, n(99, 99, 99))
		if !slices.Equal(two, want) {
			t.Errorf("%v: %s became %s", x, brief(want), brief(two))
		}
		three, _ := ops.Apply(x, p(some(), other()))
		if !slices.Equal(three, want) {
			t.Errorf("%v: %s, then %s", x, brief(want), brief(three))
		}
	}
}

// Beside the false nothing is answered, be there as much as there may.
func TestP11_1_NothingBesideFalse(t *testing.T) {
	for kind := api.KInput; kind <= api.KSink; kind++ {
		x := api.Node{Kind: kind, Arg: 1, Prog: emits(1)}
		b := row(room+1, 1)
		got, ok := ops.Apply(x, p(b, b))
		if ok || len(got) != 0 {
			t.Errorf("%d: %s, %v", kind, brief(got), ok)
		}
	}
}
