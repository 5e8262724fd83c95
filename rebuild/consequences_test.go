package rebuild_test

import (
	"math"
	"math/rand"
	"slices"
	"testing"

	"quietus/api"
	"quietus/code"
	"quietus/gf"
	"quietus/rebuild"
)

// makesPiece checks that a recipe is well-formed, and makes its piece from pieces of an encoded chunk.
func makesPiece(t *testing.T, c api.Code, pieces []string, r api.Recipe) {
	t.Helper()
	if e := rebuild.Check(r); e != api.OK {
		t.Fatal("P8.5: Check of a recipe with", c, r, e)
	}
	if s, e := rebuild.Apply(r, chosen(pieces, r.From)); s != pieces[r.Piece] || e != api.OK {
		t.Fatalf("P8.6: Apply with %v of %v: %q %d, and not %q", c, r, s, e, pieces[r.Piece])
	}
}

// TestPiecesOfChunks applies all recipes to the pieces of chunks, and asks for each piece that can be made at all.
func TestPiecesOfChunks(t *testing.T) {
	r := rand.New(rand.NewSource(8))
	for _, c := range append(smallCodes(r), greatCodes(r)...) {
		pieces, e := code.Encode(c, noise(r, r.Intn(200)))
		if e != api.OK {
			t.Fatal("Encode with", c, e)
		}
		n := len(pieces)
		for range 12 {
			lost := anySet(r, n, 5)
			suffices := code.Recoverable(c, (1<<n-1)&^lost)
			for _, piece := range list(lost) {
				best, e := rebuild.Best(c, lost, piece)
				if e == api.OK {
					makesPiece(t, c, pieces, best)
				} else if suffices {
					t.Fatal("P8.6: Best with", c, "of", piece, "lost:", list(lost), e, "where the others are recoverable")
				}
				all, _ := rebuild.All(c, lost, piece)
				for _, x := range all {
					makesPiece(t, c, pieces, x)
				}
				if near, e := rebuild.Local(c, piece); e == api.OK {
					makesPiece(t, c, pieces, near)
				}
			}
			_, l, e := rebuild.Joint(c, lost)
			if suffices != (e == api.OK) {
				t.Fatal("P8.4: Joint with", c, "lost:", list(lost), e, "where the others are recoverable, or not:", suffices)
			}
			for _, x := range l {
				makesPiece(t, c, pieces, x)
			}
		}
	}
}

// TestAllCoefficients tries all coefficients of one or two pieces: those that make a piece are the recipes, and no piece that needs more can be made so.
func TestAllCoefficients(t *testing.T) {
	r := rand.New(rand.NewSource(9))
	few, many := 0, 0
	for k := range 60 {
		c := anyCode(r, 2+k%5)
		if k == 0 {
			c = example()
		}
		rows := rowsOf(t, c)
		lost, piece := anySet(r, len(rows), 3), r.Intn(len(rows))
		var found []api.Recipe
		for by := range 256 * 256 {
			coef := []uint8{uint8(by), uint8(by >> 8)}
			for _, pair := range pairs(len(rows), lost|1<<piece) {
				if sums(rows, pair, coef, rows[piece]) {
					found = append(found, stripped(piece, pair, coef))
				}
			}
		}
		all, e := rebuild.All(c, lost, piece)
		if len(found) == 0 {
			many++
			if e == api.OK && len(all[0].From) < 3 {
				t.Fatal("P8.7: All with", c, "of", piece, "lost:", list(lost), all)
			}
			continue
		}
		few++
		least := slices.MinFunc(found, func(a, b api.Recipe) int { return len(a.From) - len(b.From) })
		found = slices.DeleteFunc(found, func(x api.Recipe) bool { return len(x.From) > len(least.From) })
		slices.SortFunc(found, func(a, b api.Recipe) int { return slices.Compare(a.From, b.From) })
		if found = slices.CompactFunc(found, sameRecipe); !sameRecipes(all, found) || e != api.OK {
			t.Fatal("P8.7: All with", c, "of", piece, "lost:", list(lost), all, e, "and not", found)
		}
	}
	if few < 10 || many < 10 {
		t.Error("too few cases:", few, many)
	}
}

// pairs are all pairs of n pieces that are not gone; where only one is left, it is paired with itself.
func pairs(n, gone int) [][]int {
	there := list((1<<n - 1) &^ gone)
	if len(there) == 1 {
		return [][]int{{there[0], there[0]}}
	}
	var l [][]int
	for k, b := range there {
		for _, a := range there[:k] {
			l = append(l, []int{a, b})
		}
	}
	return l
}

// sums says whether a row is the sum of the rows of two pieces with coefficients.
func sums(rows [][]uint8, pair []int, coef, row []uint8) bool {
	for i, want := range row {
		if gf.Mul(coef[0], rows[pair[0]][i])^gf.Mul(coef[1], rows[pair[1]][i]) != want {
			return false
		}
	}
	return true
}

// stripped is the recipe of two pieces with coefficients, of which one may be 0, or which may be the same piece.
func stripped(piece int, pair []int, coef []uint8) api.Recipe {
	r := api.Recipe{Piece: piece}
	if pair[0] == pair[1] {
		return api.Recipe{Piece: piece, From: pair[:1], Coef: []uint8{coef[0] ^ coef[1]}}
	}
	for k, by := range coef {
		if by != 0 {
			r.From = append(r.From, pair[k])
			r.Coef = append(r.Coef, by)
		}
	}
	return r
}

// TestBestAndLocal compares Best with Local, where the pieces of the group are available.
func TestBestAndLocal(t *testing.T) {
	r := rand.New(rand.NewSource(10))
	less, same := 0, 0
	for range 6000 {
		c := anyCode(r, 1+r.Intn(12))
		n := len(rowsOf(t, c))
		piece := r.Intn(n)
		near, e := rebuild.Local(c, piece)
		if e != api.OK {
			continue
		}
		lost := anySet(r, n, 4) &^ set(near.From...)
		best, e := rebuild.Best(c, lost, piece)
		if e != api.OK || len(best.From) > len(near.From) {
			t.Fatal("P8.7: Best with", c, "of", piece, "lost:", list(lost), best, e, "and Local", near)
		}
		if len(best.From) == len(near.From) {
			same++
		} else {
			less++
		}
	}
	if less < 10 || same < 500 {
		t.Error("too few cases:", less, same)
	}
}

// TestFewerLost takes pieces away from what is lost: Best reads no more, and exists as before.
func TestFewerLost(t *testing.T) {
	r := rand.New(rand.NewSource(11))
	less, same := 0, 0
	for range 6000 {
		c := anyCode(r, 2+r.Intn(11))
		n := len(rowsOf(t, c))
		piece, lost := r.Intn(n), anySet(r, n, 6)
		more, e := rebuild.Best(c, lost, piece)
		few, f := rebuild.Best(c, lost&r.Intn(1<<n), piece)
		if e != api.OK {
			continue
		}
		if f != api.OK || len(few.From) > len(more.From) {
			t.Fatal("P8.8: Best with", c, "of", piece, "lost:", list(lost), more, "and with fewer lost", few, f)
		}
		if len(few.From) == len(more.From) {
			same++
		} else {
			less++
		}
	}
	if less < 30 || same < 30 {
		t.Error("too few cases:", less, same)
	}
}

// TestJointAndBest compares what Joint reads with what Best reads for each of the lost pieces.
func TestJointAndBest(t *testing.T) {
	r := rand.New(rand.NewSource(12))
	for range 4000 {
		c := anyCode(r, 1+r.Intn(12))
		n := len(rowsOf(t, c))
		lost := anySet(r, n, 4)
		reads, l, e := rebuild.Joint(c, lost)
		for _, piece := range list(lost) {
			best, f := rebuild.Best(c, lost, piece)
			if e == api.OK && (f != api.OK || len(best.From) > len(reads)) {
				t.Fatal("P8.8: Joint with", c, "lost:", list(lost), reads, "and Best of", piece, best, f)
			}
			if size(lost) == 1 && (e != f || !slices.Equal(reads, best.From) || e == api.OK && !sameRecipe(l[0], best)) {
				t.Fatal("P8.8: Joint with", c, "lost: only", piece, reads, l, e, "and Best", best, f)
			}
		}
	}
}

// cloned is a code in new memory, whose lists have room behind them.
func cloned(c api.Code) api.Code {
	groups := make([][]int, len(c.Groups), len(c.Groups)+3)
	for g, group := range c.Groups {
		groups[g] = append(make([]int, 0, len(group)+3), group...)
	}
	return api.Code{Data: c.Data, Groups: groups, Globals: c.Globals}
}

// equal says whether two codes are the same, with what is behind their lists.
func equal(a, b api.Code) bool {
	return a.Data == b.Data && a.Globals == b.Globals && slices.EqualFunc(a.Groups[:cap(a.Groups)], b.Groups[:cap(b.Groups)], func(x, y []int) bool { return slices.Equal(x[:cap(x)], y[:cap(y)]) })
}

// spoil overwrites the lists of a recipe, and what is behind them.
func spoil(r api.Recipe) {
	for k := range r.From[:cap(r.From)] {
		r.From[:cap(r.From)][k] = -7
	}
	for k := range r.Coef[:cap(r.Coef)] {
		r.Coef[:cap(r.Coef)][k] = 77
	}
}

// spoilAll overwrites recipes one after the other, and checks that those behind stay as they were.
func spoilAll(t *testing.T, l, want []api.Recipe) {
	t.Helper()
	for k, r := range l {
		spoil(r)
		if !sameRecipes(l[k+1:], want[k+1:]) {
			t.Error("chapter 8: recipes share memory:", l, want)
		}
	}
}

// TestMemory checks that arguments are not modified, and that results are new memory, of which no two lists share any.
func TestMemory(t *testing.T) {
	r := rand.New(rand.NewSource(13))
	for _, c := range append(smallCodes(r), api.Code{Data: 4, Groups: [][]int{{3, 1}}}) {
		mine := cloned(c)
		n := max(code.Pieces(c), 1)
		for piece := range n {
			lost := anySet(r, n, 2)
			best, _ := rebuild.Best(c, lost, piece)
			all, _ := rebuild.All(c, lost, piece)
			near, _ := rebuild.Local(c, piece)
			reads, l, _ := rebuild.Joint(c, lost)
			myBest, _ := rebuild.Best(mine, lost, piece)
			myAll, _ := rebuild.All(mine, lost, piece)
			myNear, _ := rebuild.Local(mine, piece)
			myReads, myL, _ := rebuild.Joint(mine, lost)
			spoilAll(t, myAll, all)
			spoil(myBest)
			spoil(myNear)
			spoilAll(t, myL, l)
			if !slices.Equal(myReads, reads) {
				t.Error("chapter 8: recipes of Joint share memory with what it reads:", c, lost, myReads, reads)
			}
			spoil(api.Recipe{From: myReads})
			if !equal(mine, cloned(c)) {
				t.Fatal("DOC.md, Memory: an argument was modified:", c, mine)
			}
			again, _ := rebuild.Best(mine, lost, piece)
			others, _ := rebuild.All(mine, lost, piece)
			nears, _ := rebuild.Local(mine, piece)
			reads2, l2, _ := rebuild.Joint(mine, lost)
			if !sameRecipe(again, best) || !sameRecipes(others, all) || !sameRecipe(nears, near) || !slices.Equal(reads2, reads) || !sameRecipes(l2, l) {
				t.Error("chapter 8: a function is not pure:", c, lost, piece)
			}
		}
	}
}

// TestRecipeIsNotModified calls Check and Apply with lists that have room behind them.
func TestRecipeIsNotModified(t *testing.T) {
	from, coef, parts := []int{1, 4, 5, -7}, []uint8{3, 2, 1, 77}, []string{"ab", "cd", "ef", "behind"}
	r := api.Recipe{Piece: 0, From: from[:3], Coef: coef[:3]}
	rebuild.Check(r)
	s, e := rebuild.Apply(r, parts[:3])
	if !slices.Equal(from, []int{1, 4, 5, -7}) || !slices.Equal(coef, []uint8{3, 2, 1, 77}) || !slices.Equal(parts, []string{"ab", "cd", "ef", "behind"}) {
		t.Error("DOC.md, Memory: an argument was modified:", from, coef, parts)
	}
	if again, f := rebuild.Apply(r, parts[:3]); again != s || f != e || e != api.OK {
		t.Errorf("chapter 8: Apply is not pure: %q %d, %q %d", s, e, again, f)
	}
}

// TestAnyArguments calls all functions with any codes, numbers, recipes and parts: none of them panics, and errors come without results.
func TestAnyArguments(t *testing.T) {
	r := rand.New(rand.NewSource(14))
	some := []int{math.MinInt, math.MinInt + 1, -7, -1, 0, 1, 2, 3, 4, 7, 8, 15, 16, 31, 63, 64, 127, 1<<16 - 1, 1 << 16, 1<<24 - 1, 1<<32 - 1, 1 << 32, math.MaxInt - 1, math.MaxInt}
	any := func() int { return some[r.Intn(len(some))] }
	for range 20000 {
		c := anyCode(r, 1+r.Intn(9))
		switch r.Intn(6) {
		case 0:
			c.Data = any()
		case 1:
			c.Globals = any()
		case 2:
			c.Groups = append(c.Groups, []int{any(), any()}[:r.Intn(3)])
		}
		asks(t, c, any(), any())
		x := api.Recipe{Piece: any()}
		for range r.Intn(4) {
			x.From = append(x.From, any())
		}
		x.Coef = []uint8(noise(r, r.Intn(4)))
		parts := chosen([]string{"", "a", "ab", noise(r, 2)}, []int{r.Intn(4), r.Intn(4), r.Intn(4)}[:r.Intn(4)])
		e := rebuild.Check(x)
		if s, f := rebuild.Apply(x, parts); e != api.OK && f != e || f != api.OK && s != "" {
			t.Fatalf("P1: Apply of %v to %q: %q %d, and Check %d", x, parts, s, f, e)
		}
	}
}
