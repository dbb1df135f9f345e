package words

import (
	"slices"
	"testing"
)

func TestP1_3Items(t *testing.T) {
	for _, x := range []struct {
		l    []int
		want []item
	}{
		{[]int{7}, []item{{"7", 1}}},
		{[]int{7, 5}, []item{{"7", 1}}},
		{[]int{7, 8, 9, 9}, []item{{"7", 1}, {"7-8", 2}, {"7-9", 3}}},
		{[]int{7, 7, 7, 8}, []item{{"7", 1}, {"2x7", 2}, {"3x7", 3}}},
	} {
		if got := slices.Collect(items(x.l)); !slices.Equal(got, x.want) {
			t.Errorf("items of %v: %v, want %v", x.l, got, x.want)
		}
		for n := range x.want { // whoever stops gets no more
			var got []item
			for it := range items(x.l) {
				got = append(got, it)
				if len(got) > n {
					break
				}
			}
			if !slices.Equal(got, x.want[:n+1]) {
				t.Errorf("first %d items of %v: %v", n+1, x.l, got)
			}
		}
	}
}
