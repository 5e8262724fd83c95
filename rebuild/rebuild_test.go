package rebuild_test

import (
	"math"
	"math/rand"
	"slices"
	"testing"

	"quietus/api"
	"quietus/rebuild"
)

func TestExamples(t *testing.T) {
	c := example()
	near := api.Recipe{Piece: 0, From: []int{1, 4}, Coef: []uint8{1, 1}}
	far := []api.Recipe{
		{Piece: 0, From: []int{1, 2, 3, 6}, Coef: []uint8{2, 4, 8, 1}},
		{Piece: 0, From: []int{1, 2, 5, 6}, Coef: []uint8{2, 12, 8, 1}},
		{Piece: 0, From: []int{1, 3, 5, 6}, Coef: []uint8{2, 12, 4, 1}},
	}
	if r, e := rebuild.Best(c, set(0), 0); !sameRecipe(r, near) || e != api.OK {
		t.Error("P8.1: Best of the piece 0, lost: 0", r, e)
	}
	if l, e := rebuild.All(c, set(0), 0); !sameRecipes(l, []api.Recipe{near}) || e != api.OK {
		t.Error("P8.2: All of the piece 0, lost: 0", l, e)
	}
	if r, e := rebuild.Best(c, set(0, 4), 0); !sameRecipe(r, far[0]) || e != api.OK {
		t.Error("P8.1: Best of the piece 0, lost: 0 and 4", r, e)
	}
	if l, e := rebuild.All(c, set(0, 4), 0); !sameRecipes(l, far) || e != api.OK {
		t.Error("P8.2: All of the piece 0, lost: 0 and 4", l, e)
	}
	if r, e := rebuild.Best(c, set(0, 1, 4), 0); !isNone(r) || e != api.ErrLost {
		t.Error("P8.1: Best of the piece 0, lost: 0, 1 and 4", r, e)
	}
	if l, e := rebuild.All(c, set(0, 1, 4), 0); len(l) > 0 || e != api.ErrLost {
		t.Error("P8.2: All of the piece 0, lost: 0, 1 and 4", l, e)
	}
	if r, e := rebuild.Local(c, 5); !sameRecipe(r, api.Recipe{Piece: 5, From: []int{2, 3}, Coef: []uint8{1, 1}}) || e != api.OK {
		t.Error("P8.3: Local of the piece 5", r, e)
	}
	if r, e := rebuild.Local(c, 6); !isNone(r) || e != api.ErrNone {
		t.Error("P8.3: Local of the piece 6", r, e)
	}
	both := []api.Recipe{near, {Piece: 2, From: []int{3, 5}, Coef: []uint8{1, 1}}}
	if reads, l, e := rebuild.Joint(c, set(0, 2)); !slices.Equal(reads, []int{1, 3, 4, 5}) || !sameRecipes(l, both) || e != api.OK {
		t.Error("P8.4: Joint, lost: 0 and 2", reads, l, e)
	}
	if s, e := rebuild.Apply(near, []string{"\x03\x04", "\x02\x06"}); s != "\x01\x02" || e != api.OK {
		t.Errorf("P8.5: Apply of the first recipe: %q %d", s, e)
	}
}

// checkOne compares Best and All with the reference.
func checkOne(t *testing.T, ref reference, lost, piece int) {
	t.Helper()
	want := ref.least(lost|1<<piece, 1<<piece)
	best, e := rebuild.Best(ref.c, lost, piece)
	all, f := rebuild.All(ref.c, lost, piece)
	if len(want) == 0 {
		if !isNone(best) || e != api.ErrLost {
			t.Fatal("P8.1: Best with", ref.c, "of", piece, "lost:", list(lost), best, e)
		}
		if len(all) > 0 || f != api.ErrLost {
			t.Fatal("P8.2: All with", ref.c, "of", piece, "lost:", list(lost), all, f)
		}
		return
	}
	if e != api.OK || best.Piece != piece || !slices.Equal(best.From, want[0]) || !ref.isRecipe(best) {
		t.Fatal("P8.1: Best with", ref.c, "of", piece, "lost:", list(lost), best, e, "and not from", want[0])
	}
	if f != api.OK || len(all) != len(want) {
		t.Fatal("P8.2: All with", ref.c, "of", piece, "lost:", list(lost), all, f, "and not from", want)
	}
	for k, r := range all {
		if r.Piece != piece || !slices.Equal(r.From, want[k]) || !ref.isRecipe(r) {
			t.Fatal("P8.2: All with", ref.c, "of", piece, "lost:", list(lost), "at", k, r, "and not from", want[k])
		}
	}
}

// checkJoint compares Joint with the reference.
func checkJoint(t *testing.T, ref reference, lost int) {
	t.Helper()
	want := ref.least(lost, lost)
	reads, l, e := rebuild.Joint(ref.c, lost)
	if len(want) == 0 {
		if len(reads) > 0 || len(l) > 0 || e != api.ErrLost {
			t.Fatal("P8.4: Joint with", ref.c, "lost:", list(lost), reads, l, e)
		}
		return
	}
	if e != api.OK || !slices.Equal(reads, want[0]) || len(l) != size(lost) {
		t.Fatal("P8.4: Joint with", ref.c, "lost:", list(lost), reads, l, e, "and not", want[0])
	}
	for k, piece := range list(lost) {
		if r := l[k]; r.Piece != piece || set(r.From...)&^set(reads...) != 0 || !ref.isRecipe(r) {
			t.Fatal("P8.4: Joint with", ref.c, "lost:", list(lost), reads, "at", k, r)
		}
	}
}

// TestSmallCodes looks for each piece, whichever pieces are lost, and for all of them together.
func TestSmallCodes(t *testing.T) {
	for _, c := range smallCodes(rand.New(rand.NewSource(1))) {
		ref := refer(t, c)
		for lost := range ref.ranks {
			for piece := range ref.n {
				checkOne(t, ref, lost, piece)
			}
			checkJoint(t, ref, lost)
		}
	}
}

func TestGreatCodes(t *testing.T) {
	r := rand.New(rand.NewSource(2))
	for _, c := range greatCodes(r) {
		ref := refer(t, c)
		for piece := range ref.n {
			checkOne(t, ref, anySet(r, ref.n, 4), piece)
			checkJoint(t, ref, anySet(r, ref.n, 6))
		}
		checkOne(t, ref, 0, ref.n-1)
		checkJoint(t, ref, 0)
		checkJoint(t, ref, 1<<ref.n-1)
	}
}

// TestTwoLess looks for pieces for which two pieces less suffice than the number of data pieces, as some rows happen to fit together.
func TestTwoLess(t *testing.T) {
	for _, x := range []struct {
		c           api.Code
		lost, piece int
	}{
		{api.Code{Data: 10, Groups: [][]int{{0, 2, 3, 5}}, Globals: 4}, 0, 6},
		{api.Code{Data: 10, Groups: [][]int{{0, 4, 5}, {6, 7, 9}}, Globals: 3}, set(3), 3},
		{api.Code{Data: 11, Groups: [][]int{{1, 2, 3, 4, 5, 6, 9}}, Globals: 4}, set(13), 0},
	} {
		ref := refer(t, x.c)
		checkOne(t, ref, x.lost, x.piece)
		checkJoint(t, ref, 1<<x.piece)
		if best, e := rebuild.Best(x.c, x.lost, x.piece); len(best.From) != x.c.Data-2 || e != api.OK {
			t.Error("P8.7: Best with", x.c, "of", x.piece, "lost:", list(x.lost), best, e)
		}
	}
}

// TestPieceThatIsNotLost checks that a piece is not read for itself, whether it is lost or not.
func TestPieceThatIsNotLost(t *testing.T) {
	r := rand.New(rand.NewSource(3))
	for _, c := range append(greatCodes(r), smallCodes(r)...) {
		n := len(rowsOf(t, c))
		piece, lost := r.Intn(n), anySet(r, n, 3)
		there, e := rebuild.Best(c, lost&^(1<<piece), piece)
		gone, f := rebuild.Best(c, lost|1<<piece, piece)
		if !sameRecipe(there, gone) || e != f || slices.Contains(there.From, piece) {
			t.Error("P8.1: Best with", c, "of", piece, "lost:", list(lost), there, e, gone, f)
		}
		some, e := rebuild.All(c, lost&^(1<<piece), piece)
		others, f := rebuild.All(c, lost|1<<piece, piece)
		if !sameRecipes(some, others) || e != f {
			t.Error("P8.2: All with", c, "of", piece, "lost:", list(lost), some, e, others, f)
		}
	}
}

func TestLocal(t *testing.T) {
	c := api.Code{Data: 6, Groups: [][]int{{1, 3, 4}, {5}}, Globals: 2} // the pieces 6 and 7 are local parities
	for _, x := range []struct {
		piece int
		from  []int
	}{{0, nil}, {1, []int{3, 4, 6}}, {2, nil}, {3, []int{1, 4, 6}}, {4, []int{1, 3, 6}}, {5, []int{7}}, {6, []int{1, 3, 4}}, {7, []int{5}}, {8, nil}, {9, nil}} {
		r, e := rebuild.Local(c, x.piece)
		want := api.Recipe{Piece: x.piece, From: x.from, Coef: slices.Repeat([]uint8{1}, len(x.from))}
		if x.from == nil && (!isNone(r) || e != api.ErrNone) || x.from != nil && (!sameRecipe(r, want) || e != api.OK) {
			t.Error("P8.3: Local of the piece", x.piece, r, e)
		}
	}
}

// TestLocals adds up the rows of all recipes from groups, whose pieces are those of the group but one.
func TestLocals(t *testing.T) {
	r := rand.New(rand.NewSource(4))
	for _, c := range append(greatCodes(r), smallCodes(r)...) {
		rows := rowsOf(t, c)
		ref := reference{c: c, n: len(rows), rows: rows}
		for piece := range ref.n {
			all := 0
			for g, group := range c.Groups {
				if s := set(group...) | 1<<(c.Data+g); s>>piece&1 == 1 {
					all = s
				}
			}
			x, e := rebuild.Local(c, piece)
			if all == 0 {
				if !isNone(x) || e != api.ErrNone {
					t.Error("P8.3: Local with", c, "of", piece, x, e)
				}
				continue
			}
			if e != api.OK || x.Piece != piece || set(x.From...) != all&^(1<<piece) || !ref.isRecipe(x) || slices.Max(x.Coef) != 1 {
				t.Error("P8.3: Local with", c, "of", piece, x, e)
			}
		}
	}
}

// badCode is a code for which there are no recipes, and why.
type badCode struct {
	c    api.Code
	want api.Errno
}

// badCodes are codes with each error, alone and together with later ones.
func badCodes() []badCode {
	long := [][]int{{0, 1, 2, 3}, {4, 5, 6, 7}, {8, 9, 10, 11}, {12}}
	return []badCode{
		{api.Code{}, api.ErrRange},
		{api.Code{Data: 17}, api.ErrRange},
		{api.Code{Data: 16, Globals: 5}, api.ErrRange},
		{api.Code{Data: math.MinInt, Globals: 4}, api.ErrRange},
		{api.Code{Data: 4, Globals: -1}, api.ErrRange},
		{api.Code{Data: 16, Groups: make([][]int, 9)}, api.ErrLimit},
		{api.Code{Data: 4, Groups: [][]int{{}}}, api.ErrNone},
		{api.Code{Data: 16, Groups: [][]int{{}}}, api.ErrNone},
		{api.Code{Data: 4, Groups: [][]int{{1, 0}}}, api.ErrArg},
		{api.Code{Data: 16, Groups: [][]int{{1, 0}}, Globals: 4}, api.ErrArg},
		{api.Code{Data: 16, Globals: 1}, api.ErrLimit},
		{api.Code{Data: 13, Globals: 4}, api.ErrLimit},
		{api.Code{Data: 13, Groups: long}, api.ErrLimit},
		{api.Code{Data: 16, Groups: long, Globals: 4}, api.ErrLimit},
	}
}

// asks calls Best, All, Joint and Local, and returns their errors; together with an error all other results have to be zero.
func asks(t *testing.T, c api.Code, lost, piece int) [4]api.Errno {
	t.Helper()
	r, e1 := rebuild.Best(c, lost, piece)
	all, e2 := rebuild.All(c, lost, piece)
	reads, l, e3 := rebuild.Joint(c, lost)
	near, e4 := rebuild.Local(c, piece)
	if e1 != api.OK && !isNone(r) || e2 != api.OK && len(all) > 0 || e3 != api.OK && len(reads)+len(l) > 0 || e4 != api.OK && !isNone(near) {
		t.Error("chapter 8: results together with an error, with", c, lost, piece, r, e1, all, e2, reads, l, e3, near, e4)
	}
	return [4]api.Errno{e1, e2, e3, e4}
}

// TestErrors checks the errors of codes, sets and pieces, and their order.
func TestErrors(t *testing.T) {
	numbers := []int{math.MinInt, -128, -1, 0, 1, 6, 7, 15, 16, 17, 23, 24, 62, 63, 64, 127, 128, 1 << 16, 1 << 24, 1 << 62, math.MaxInt}
	for _, x := range badCodes() {
		for _, lost := range numbers {
			for _, piece := range numbers {
				if got := asks(t, x.c, lost, piece); got != [4]api.Errno{x.want, x.want, x.want, x.want} {
					t.Error("chapter 8: the errors with", x.c, lost, piece, got)
				}
			}
		}
	}
	for _, c := range []api.Code{example(), {Data: 1}, {Data: 12, Globals: 4}} {
		n := len(rowsOf(t, c))
		for _, lost := range append(numbers, -1<<n, 1<<n-1, 1<<n, 1<<n|1) {
			for _, piece := range append(numbers, n-1, n) {
				isSet, isPiece := lost >= 0 && lost < 1<<n, piece >= 0 && piece < n
				got := asks(t, c, lost, piece)
				for k, right := range []bool{isSet && isPiece, isSet && isPiece, isSet, isPiece} {
					if (got[k] == api.ErrArg) == right {
						t.Error("chapter 8: the errors with", c, lost, piece, got)
					}
				}
			}
		}
	}
}

// TestNothingIsLost checks that Joint of an empty set is two empty lists, and that of all pieces ErrLost.
func TestNothingIsLost(t *testing.T) {
	for _, c := range smallCodes(rand.New(rand.NewSource(5))) {
		if reads, l, e := rebuild.Joint(c, 0); len(reads) > 0 || len(l) > 0 || e != api.OK {
			t.Error("P8.4: Joint with", c, "where nothing is lost", reads, l, e)
		}
		if reads, l, e := rebuild.Joint(c, 1<<len(rowsOf(t, c))-1); len(reads) > 0 || len(l) > 0 || e != api.ErrLost {
			t.Error("P8.4: Joint with", c, "where all is lost", reads, l, e)
		}
	}
}
