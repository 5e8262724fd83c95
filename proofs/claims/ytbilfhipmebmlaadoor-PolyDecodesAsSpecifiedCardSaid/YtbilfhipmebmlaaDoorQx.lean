/-
  PolyDecodesAsSpecified: the walk. (Written by tools/genqx.py.)
-/
import Derived.Test.YtbilfhipmebmlaaDoorQw
namespace Go.Proofs.YtbilfhipmebmlaaDoor
set_option linter.unusedVariables false
set_option linter.unusedSimpArgs false
open Go.RowKit

set_option maxRecDepth 100000 in
set_option maxHeartbeats 4000000 in
theorem refdec_no (xs : List UInt8) (A A' : Option Addr) (c c' n ny : Nat) (d wr : Int) (w : World) (h : RowV w A n c xs) (hl : n ≤ 100000) (hl' : ny ≤ 100000) (hd : ¬ (Dist xs n ∧ n = ny)) :
    Calls Tryd.prog 34 #[.slice A n c, .slice A' ny c', .int .i64 d, .int .i64 wr] w fun e w' => e = .returned (.agg #[.slice none 0 0, .slice none 0 0, .int .i64 1]) ∧ Below w.heap.size w w' := by
  obtain ⟨dd, hdu, hdr⟩ := row_dec6
  have hdu' := Lib.hid hdu
  obtain ⟨W1, hW1⟩ : ∃ W1, W1 = w.alloc (.cells #[.slice none 0 0, .slice none 0 0, .int .i64 0] 48) := ⟨_, rfl⟩
  have hB1 : Hid (Below w.heap.size w W1) := by show Below _ _ _; rw [hW1]; exact (Below.refl _ _).alloc (Nat.le_refl _) _
  have hR1 : Hid (Blk W1 w.heap.size [.slice none 0 0, .slice none 0 0, .int .i64 0] 48) := by show Blk _ _ _ _; rw [hW1]; exact Blk.new _ [_, _, _] _
  have hW1' := Lib.hid hW1
  have RT := Lib.hid (right_v (A' := A') (c' := c') (h.keep hB1.out) (by omega) (by omega) false ⟨fun h => (by cases h), fun h => absurd h hd⟩)
  clear hd
  clear hdu hW1 h
  go_enter Tryd.func34, Tryd.ntmps34
  go_wp2_with fail
  generalize hg : w.alloc _ = Wg
  have hgW : W1 = Wg := by rw [← hg, hW1'.out]
  clear hg hW1'
  subst hgW
  refine RT.out.mono ?_
  rintro e w2 ⟨rfl, hb⟩
  have S0 := Lib.hid (hR1.out.below hb hR1.out.lt)
  have E0 : Hid (Below w.heap.size w w2) := hB1.out.trans (hb.mono hB1.out.size)
  clear hb RT hR1
  go_wp2_with (refine wpList_row_store rfl 48 _ _ rfl [.slice none 0 0, .slice none 0 0, .int .i64 1] rfl rfl S0.out size_dec6 rfl (dvd_one6 _ _ _ _ _ _ _) ?_; intro w7 hw7 ho7)
  exact bodyPost_ret (ret_blk rfl _ w7 (g := w.heap.size) rfl hw7.out dd hdu'.out hdr size_dec6) rfl ⟨rfl, E0.out.trans (ho7.below (Nat.le_refl _))⟩
set_option maxRecDepth 100000 in
set_option maxHeartbeats 4000000 in
theorem refdec_range (xs : List UInt8) (A A' : Option Addr) (c c' n ny : Nat) (d wr : Int) (w : World) (h : RowV w A n c xs) (hl : n ≤ 100000) (hl' : ny ≤ 100000) (hd : Dist xs n) (he : n = ny) (hr : d < 0 ∨ wr < 0 ∨ (n : Int) ≤ d ∨ (n : Int) < d + 1 + 2 * wr) :
    Calls Tryd.prog 34 #[.slice A n c, .slice A' ny c', .int .i64 d, .int .i64 wr] w fun e w' => e = .returned (.agg #[.slice none 0 0, .slice none 0 0, .int .i64 3]) ∧ Below w.heap.size w w' := by
  obtain ⟨dd, hdu, hdr⟩ := row_dec6
  have hdu' := Lib.hid hdu
  obtain ⟨W1, hW1⟩ : ∃ W1, W1 = w.alloc (.cells #[.slice none 0 0, .slice none 0 0, .int .i64 0] 48) := ⟨_, rfl⟩
  have hB1 : Hid (Below w.heap.size w W1) := by show Below _ _ _; rw [hW1]; exact (Below.refl _ _).alloc (Nat.le_refl _) _
  have hR1 : Hid (Blk W1 w.heap.size [.slice none 0 0, .slice none 0 0, .int .i64 0] 48) := by show Blk _ _ _ _; rw [hW1]; exact Blk.new _ [_, _, _] _
  have hW1' := Lib.hid hW1
  have RT := Lib.hid (right_v (A' := A') (c' := c') (h.keep hB1.out) (by omega) (by omega) true ⟨fun _ => ⟨hd, he⟩, fun _ => rfl⟩)
  clear hd he
  clear hdu hW1 h
  by_cases q1 : d < 0
  · clear hr
    go_enter Tryd.func34, Tryd.ntmps34
    go_wp2_with fail
    generalize hg : w.alloc _ = Wg
    have hgW : W1 = Wg := by rw [← hg, hW1'.out]
    clear hg hW1'
    subst hgW
    refine RT.out.mono ?_
    rintro e w2 ⟨rfl, hb⟩
    have S0 := Lib.hid (hR1.out.below hb hR1.out.lt)
    have E0 : Hid (Below w.heap.size w w2) := hB1.out.trans (hb.mono hB1.out.size)
    clear hb RT hR1
    go_wp2_with (refine wpList_row_store rfl 48 _ _ rfl [.slice none 0 0, .slice none 0 0, .int .i64 3] rfl rfl S0.out size_dec6 rfl (dvd_one6 _ _ _ _ _ _ _) ?_; intro w7 hw7 ho7)
    exact bodyPost_ret (ret_blk rfl _ w7 (g := w.heap.size) rfl hw7.out dd hdu'.out hdr size_dec6) rfl ⟨rfl, E0.out.trans (ho7.below (Nat.le_refl _))⟩
  by_cases q2 : wr < 0
  · clear hr
    go_enter Tryd.func34, Tryd.ntmps34
    go_wp2_with fail
    generalize hg : w.alloc _ = Wg
    have hgW : W1 = Wg := by rw [← hg, hW1'.out]
    clear hg hW1'
    subst hgW
    refine RT.out.mono ?_
    rintro e w2 ⟨rfl, hb⟩
    have S0 := Lib.hid (hR1.out.below hb hR1.out.lt)
    have E0 : Hid (Below w.heap.size w w2) := hB1.out.trans (hb.mono hB1.out.size)
    clear hb RT hR1
    go_wp2_with (refine wpList_row_store rfl 48 _ _ rfl [.slice none 0 0, .slice none 0 0, .int .i64 3] rfl rfl S0.out size_dec6 rfl (dvd_one6 _ _ _ _ _ _ _) ?_; intro w7 hw7 ho7)
    exact bodyPost_ret (ret_blk rfl _ w7 (g := w.heap.size) rfl hw7.out dd hdu'.out hdr size_dec6) rfl ⟨rfl, E0.out.trans (ho7.below (Nat.le_refl _))⟩
  by_cases q3 : d ≥ (n : Int)
  · clear hr
    go_enter Tryd.func34, Tryd.ntmps34
    go_wp2_with fail
    generalize hg : w.alloc _ = Wg
    have hgW : W1 = Wg := by rw [← hg, hW1'.out]
    clear hg hW1'
    subst hgW
    refine RT.out.mono ?_
    rintro e w2 ⟨rfl, hb⟩
    have S0 := Lib.hid (hR1.out.below hb hR1.out.lt)
    have E0 : Hid (Below w.heap.size w w2) := hB1.out.trans (hb.mono hB1.out.size)
    clear hb RT hR1
    go_wp2_with (refine wpList_row_store rfl 48 _ _ rfl [.slice none 0 0, .slice none 0 0, .int .i64 3] rfl rfl S0.out size_dec6 rfl (dvd_one6 _ _ _ _ _ _ _) ?_; intro w7 hw7 ho7)
    exact bodyPost_ret (ret_blk rfl _ w7 (g := w.heap.size) rfl hw7.out dd hdu'.out hdr size_dec6) rfl ⟨rfl, E0.out.trans (ho7.below (Nat.le_refl _))⟩
  by_cases q4 : wr > (n : Int)
  · clear hr
    go_enter Tryd.func34, Tryd.ntmps34
    go_wp2_with fail
    generalize hg : w.alloc _ = Wg
    have hgW : W1 = Wg := by rw [← hg, hW1'.out]
    clear hg hW1'
    subst hgW
    refine RT.out.mono ?_
    rintro e w2 ⟨rfl, hb⟩
    have S0 := Lib.hid (hR1.out.below hb hR1.out.lt)
    have E0 : Hid (Below w.heap.size w w2) := hB1.out.trans (hb.mono hB1.out.size)
    clear hb RT hR1
    go_wp2_with (refine wpList_row_store rfl 48 _ _ rfl [.slice none 0 0, .slice none 0 0, .int .i64 3] rfl rfl S0.out size_dec6 rfl (dvd_one6 _ _ _ _ _ _ _) ?_; intro w7 hw7 ho7)
    exact bodyPost_ret (ret_blk rfl _ w7 (g := w.heap.size) rfl hw7.out dd hdu'.out hdr size_dec6) rfl ⟨rfl, E0.out.trans (ho7.below (Nat.le_refl _))⟩
  obtain ⟨d1, hd1⟩ : ∃ d1 : Nat, d + 1 = d1 := ⟨(d + 1).toNat, by omega⟩
  obtain ⟨w3, hw3⟩ : ∃ w3 : Nat, 2 * wr = w3 := ⟨(2 * wr).toNat, by omega⟩
  obtain ⟨s3, hs3⟩ : ∃ s3 : Nat, (d1 : Int) + (w3 : Int) = s3 := ⟨d1 + w3, by omega⟩
  have f1 : IntKind.i64.wrap (d1 : Int) = (d1 : Int) := by rw [IntKind.wrap_i64]; omega
  have f2 : IntKind.i64.wrap (w3 : Int) = (w3 : Int) := by rw [IntKind.wrap_i64]; omega
  have f3 : IntKind.i64.wrap (s3 : Int) = (s3 : Int) := by rw [IntKind.wrap_i64]; omega
  have q5 : (n : Int) < (s3 : Int) := by omega
  have q5b : n < s3 := by omega
  clear hr
  go_enter Tryd.func34, Tryd.ntmps34
  go_wp2_with fail
  generalize hg : w.alloc _ = Wg
  have hgW : W1 = Wg := by rw [← hg, hW1'.out]
  clear hg hW1'
  subst hgW
  refine RT.out.mono ?_
  rintro e w2 ⟨rfl, hb⟩
  have S0 := Lib.hid (hR1.out.below hb hR1.out.lt)
  have E0 : Hid (Below w.heap.size w w2) := hB1.out.trans (hb.mono hB1.out.size)
  clear hb RT hR1
  go_wp2_with (refine wpList_row_store rfl 48 _ _ rfl [.slice none 0 0, .slice none 0 0, .int .i64 3] rfl rfl S0.out size_dec6 rfl (dvd_one6 _ _ _ _ _ _ _) ?_; intro w7 hw7 ho7)
  exact bodyPost_ret (ret_blk rfl _ w7 (g := w.heap.size) rfl hw7.out dd hdu'.out hdr size_dec6) rfl ⟨rfl, E0.out.trans (ho7.below (Nat.le_refl _))⟩

/-- What Decode returns. -/
def DR (xs ys : List UInt8) (n ny : Nat) (d wr : Int) (P : List UInt8) (At : List Nat) (E : Int) : Prop :=
  (¬ (Dist xs n ∧ n = ny) ∧ P = [] ∧ At = [] ∧ E = 1) ∨
  ((Dist xs n ∧ n = ny) ∧ (d < 0 ∨ wr < 0 ∨ (n : Int) ≤ d ∨ (n : Int) < d + 1 + 2 * wr) ∧ P = [] ∧ At = [] ∧ E = 3) ∨
  ((Dist xs n ∧ n = ny) ∧ ∃ a b : Nat, d = a ∧ wr = b ∧ a + 1 + 2 * b ≤ n ∧ ((Found xs ys n a b P ∧ At = missL P xs ys n ∧ E = 0) ∨ (Lost xs ys n a b ∧ P = [] ∧ At = [] ∧ E = 17)))
theorem DR.one {xs ys : List UInt8} {n ny : Nat} {d wr : Int} {P P' : List UInt8} {At At' : List Nat} {E E' : Int} (h : DR xs ys n ny d wr P At E) (h' : DR xs ys n ny d wr P' At' E') : P = P' ∧ At = At' ∧ E = E' := by
  rcases h with ⟨h1, rfl, rfl, rfl⟩ | ⟨h1, h2, rfl, rfl, rfl⟩ | ⟨h1, a, b, ha, hb, h2, h3⟩
  · rcases h' with ⟨g1, rfl, rfl, rfl⟩ | ⟨g1, _⟩ | ⟨g1, _⟩
    · exact ⟨rfl, rfl, rfl⟩
    · exact absurd g1 h1
    · exact absurd g1 h1
  · rcases h' with ⟨g1, _⟩ | ⟨g1, g2, rfl, rfl, rfl⟩ | ⟨g1, a, b, ha, hb, g2, _⟩
    · exact absurd h1 g1
    · exact ⟨rfl, rfl, rfl⟩
    · omega
  · rcases h' with ⟨g1, _⟩ | ⟨g1, g2, _⟩ | ⟨g1, a', b', ha', hb', g2, g3⟩
    · exact absurd h1 g1
    · omega
    · obtain rfl : a = a' := by omega
      obtain rfl : b = b' := by omega
      rcases h3 with ⟨f1, rfl, rfl⟩ | ⟨f1, rfl, rfl, rfl⟩
      · rcases g3 with ⟨k1, rfl, rfl⟩ | ⟨k1, _⟩
        · obtain rfl := f1.one k1 h1.1 h2
          exact ⟨rfl, rfl, rfl⟩
        · exact (f1.not k1).elim
      · rcases g3 with ⟨k1, _⟩ | ⟨k1, rfl, rfl, rfl⟩
        · exact (k1.not f1).elim
        · exact ⟨rfl, rfl, rfl⟩
theorem rowN_nil (W : World) : RowN W none 0 [] := ⟨rfl, Rds.empty⟩
section
variable {W : World} {A A' : Option Addr} {n c n' c' : Nat} {l m : List UInt8}
theorem dr_split {d wr : Int} (hD : Dist l n ∧ n = n') (h : ¬ (d < 0 ∨ wr < 0 ∨ (n : Int) ≤ d ∨ (n : Int) < d + 1 + 2 * wr)) : ∃ a b : Nat, d = a ∧ wr = b ∧ a + 1 + 2 * b ≤ n := ⟨d.toNat, wr.toNat, by omega, by omega, by omega⟩
theorem dr_v (h : RowV W A n c l) (h' : RowV W A' n' c' m) (hl : n ≤ 20) (hl' : n' ≤ 20) (d wr : Int) (ht : PTab 0 W) : Calls Tryd.prog 33 #[.slice A n c, .slice A' n' c', .int .i64 d, .int .i64 wr] W fun e w' => ∃ P At E A1 n1 c1 A2 n2 c2, DR l m n n' d wr P At E ∧ e = .returned (.tuple #[.slice A1 n1 c1, .slice A2 n2 c2, .int .i64 E]) ∧ RowV w' A1 n1 c1 P ∧ RowN w' A2 n2 At ∧ Below W.heap.size W w' := by
  by_cases hD : Dist l n ∧ n = n'
  · by_cases hr : d < 0 ∨ wr < 0 ∨ (n : Int) ≤ d ∨ (n : Int) < d + 1 + 2 * wr
    · refine (decode_range l A A' c c' n n' d wr W h.rds (Nat.le_refl _) h.len (by omega) hD.1 hD.2 hr).mono ?_
      rintro e w' ⟨rfl, hb⟩
      exact ⟨[], [], 3, none, 0, 0, none, 0, 0, .inr (.inl ⟨hD, hr, rfl, rfl, rfl⟩), rfl, rowV_nil _, rowN_nil _, hb⟩
    · obtain ⟨a, b, rfl, rfl, hab⟩ := dr_split (l := l) hD hr
      refine (decode_v h h' hD.2 (by omega) hD.1 a b hab ht).mono ?_
      rintro e w' (⟨P, A1, n1, c1, A2, n2, c2, hF, rfl, h1, h2, hb⟩ | ⟨hL, rfl, hb⟩)
      · exact ⟨P, _, 0, A1, n1, c1, A2, n2, c2, .inr (.inr ⟨hD, a, b, rfl, rfl, hab, .inl ⟨hF, rfl, rfl⟩⟩), rfl, h1, h2, hb⟩
      · exact ⟨[], [], 17, none, 0, 0, none, 0, 0, .inr (.inr ⟨hD, a, b, rfl, rfl, hab, .inr ⟨hL, rfl, rfl, rfl⟩⟩), rfl, rowV_nil _, rowN_nil _, hb⟩
  · refine (decode_no l A A' c c' n n' d wr W h.rds (Nat.le_refl _) h.len (by omega) (by omega) hD).mono ?_
    rintro e w' ⟨rfl, hb⟩
    exact ⟨[], [], 1, none, 0, 0, none, 0, 0, .inl ⟨hD, rfl, rfl, rfl⟩, rfl, rowV_nil _, rowN_nil _, hb⟩
theorem rdr_v (h : RowV W A n c l) (h' : RowV W A' n' c' m) (hl : n ≤ 20) (hl' : n' ≤ 20) (d wr : Int) : Calls Tryd.prog 34 #[.slice A n c, .slice A' n' c', .int .i64 d, .int .i64 wr] W fun e w' => ∃ P At E A1 n1 c1 A2 n2 c2, DR l m n n' d wr P At E ∧ e = .returned (.agg #[.slice A1 n1 c1, .slice A2 n2 c2, .int .i64 E]) ∧ RowV w' A1 n1 c1 P ∧ RowN w' A2 n2 At ∧ Below W.heap.size W w' := by
  by_cases hD : Dist l n ∧ n = n'
  · by_cases hr : d < 0 ∨ wr < 0 ∨ (n : Int) ≤ d ∨ (n : Int) < d + 1 + 2 * wr
    · refine (refdec_range l A A' c c' n n' d wr W h (by omega) (by omega) hD.1 hD.2 hr).mono ?_
      rintro e w' ⟨rfl, hb⟩
      exact ⟨[], [], 3, none, 0, 0, none, 0, 0, .inr (.inl ⟨hD, hr, rfl, rfl, rfl⟩), rfl, rowV_nil _, rowN_nil _, hb⟩
    · obtain ⟨a, b, rfl, rfl, hab⟩ := dr_split (l := l) hD hr
      refine (refdec_ok (B := 0) l m A A' c c' n n' a b W h h' hD.2 hl hD.1 hab).mono ?_
      rintro e w' (⟨P, A1, n1, c1, A2, n2, c2, hF, rfl, h1, h2, hb⟩ | ⟨hL, rfl, hb⟩)
      · exact ⟨P, _, 0, A1, n1, c1, A2, n2, c2, .inr (.inr ⟨hD, a, b, rfl, rfl, hab, .inl ⟨hF, rfl, rfl⟩⟩), rfl, h1, h2, hb⟩
      · exact ⟨[], [], 17, none, 0, 0, none, 0, 0, .inr (.inr ⟨hD, a, b, rfl, rfl, hab, .inr ⟨hL, rfl, rfl, rfl⟩⟩), rfl, rowV_nil _, rowN_nil _, hb⟩
  · refine (refdec_no l A A' c c' n n' d wr W h (by omega) (by omega) hD).mono ?_
    rintro e w' ⟨rfl, hb⟩
    exact ⟨[], [], 1, none, 0, 0, none, 0, 0, .inl ⟨hD, rfl, rfl, rfl⟩, rfl, rowV_nil _, rowN_nil _, hb⟩
end
theorem DR.len {xs ys : List UInt8} {n ny : Nat} {d wr : Int} {P : List UInt8} {At : List Nat} {E : Int} (h : DR xs ys n ny d wr P At E) : P.length ≤ n ∧ At.length ≤ n := by
  rcases h with ⟨h1, rfl, rfl, rfl⟩ | ⟨h1, h2, rfl, rfl, rfl⟩ | ⟨h1, a, b, ha, hb, h2, ⟨f1, rfl, rfl⟩ | ⟨f1, rfl, rfl, rfl⟩⟩
  · simp
  · simp
  · refine ⟨?_, missL_len _ _ _ _⟩
    rw [← f1.2.1, trim_len]
    have := f1.1
    omega
  · simp

set_option maxRecDepth 100000 in
set_option maxHeartbeats 8000000 in
theorem walk_decspec (A0 : Option Addr) (c0 : Nat) (l0 : List UInt8) (A1 : Option Addr) (c1 : Nat) (l1 : List UInt8) (a2 a3 : Int) (w : World) (H0 : SlB w A0 l0.length c0 l0) (H1 : SlB w A1 l1.length c1 l1) (hi2 : -9223372036854775808 ≤ a2 ∧ a2 ≤ 9223372036854775807) (hi3 : -9223372036854775808 ≤ a3 ∧ a3 ≤ 9223372036854775807) (ht : PTab 0 w) :
    Calls Tryd.prog 5 #[.slice A0 l0.length c0, .slice A1 l1.length c1, .int .i64 a2, .int .i64 a3] w (OkEnd true w) := by
  have R0 := Lib.hid (slB_row H0)
  have R1 := Lib.hid (slB_row H1)
  have hr0 := H0.reach
  have hr1 := H1.reach
  have T := Lib.hid ht
  have SA := Lib.hid (fun (W : World) (h : Fol w W) => sanity_any6 W (ht.below h ht.1))
  clear H0 H1 ht hi2 hi3
  obtain ⟨n0, hn0⟩ : ∃ n, n = l0.length := ⟨_, rfl⟩
  obtain ⟨n1, hn1⟩ : ∃ n, n = l1.length := ⟨_, rfl⟩
  rw [← hn0] at R0 hr0 ⊢
  rw [← hn1] at R1 hr1 ⊢
  clear hn0 hn1
  have E : Hid (Fol w w) := Below.refl _ _
  by_cases hb0 : 9 < n0
  · have t0 : (n0 : Int) > 9 := by omega
    clear hb0
    have SA0 := Lib.hid (SA.out w E.out)
    go_enter Tryd.func5, Tryd.ntmps5
    go_wp2_with fail
    refine SA0.out.mono ?_
    rintro e v1 ⟨rfl, hb⟩
    replace E := Lib.hid (E.out.to hb)
    clear hb
    go_wp2_with fail
    go_ret
    exact ⟨by first | rfl | (go_simp; done), E.out⟩
  have t0 : ¬ (n0 : Int) > 9 := by omega
  by_cases hb1 : 9 < n1
  · have t1 : (n1 : Int) > 9 := by omega
    clear hb1 hb0
    have SA0 := Lib.hid (SA.out w E.out)
    go_enter Tryd.func5, Tryd.ntmps5
    go_wp2_with fail
    refine SA0.out.mono ?_
    rintro e v1 ⟨rfl, hb⟩
    replace E := Lib.hid (E.out.to hb)
    clear hb
    go_wp2_with fail
    go_ret
    exact ⟨by first | rfl | (go_simp; done), E.out⟩
  have t1 : ¬ (n1 : Int) > 9 := by omega
  have h0 : n0 ≤ 9 := by omega
  have h1 : n1 ≤ 9 := by omega
  clear hb0 hb1 hr0 hr1
  go_enter Tryd.func5, Tryd.ntmps5
  go_wp2_with fail
  refine (dr_v R0.out R1.out (by omega) (by omega) a2 a3 T.out).mono ?_
  rintro e v1 ⟨P1, T1, E1, A3, n3, c3, A4, n4, c4, hD1, rfl, hR3, hR4, hb⟩
  have R3 := Lib.hid hR3
  clear hR3
  have R4 := Lib.hid hR4
  clear hR4
  have D1 := Lib.hid hD1
  clear hD1
  replace R0 := Lib.hid (R0.out.keep hb)
  replace R1 := Lib.hid (R1.out.keep hb)
  replace E := Lib.hid (E.out.to hb)
  replace T := Lib.hid (T.out.below hb T.out.1)
  clear hb
  go_wp2_with fail
  refine (rdr_v R0.out R1.out (by omega) (by omega) a2 a3).mono ?_
  rintro e v2 ⟨P2, T2, E2, A5, n5, c5, A6, n6, c6, hD2, rfl, hR5, hR6, hb⟩
  obtain ⟨e1, e2, e3⟩ := D1.out.one hD2
  subst e1 e2 e3
  have hDl := Lib.hid D1.out.len
  clear hD2 D1
  have R5 := Lib.hid hR5
  have R6 := Lib.hid hR6
  clear hR5 hR6
  replace R0 := Lib.hid (R0.out.keep hb)
  replace R1 := Lib.hid (R1.out.keep hb)
  replace R3 := Lib.hid (R3.out.keep hb)
  replace R4 := Lib.hid (R4.out.keep hb)
  replace E := Lib.hid (E.out.to hb)
  replace T := Lib.hid (T.out.below hb T.out.1)
  clear hb
  go_wp2_with fail
  generalize hg : v2.alloc _ = u2
  have BX : Hid (Blk u2 v2.heap.size [.slice A5 n5 c5, .slice A6 n6 c6, .int .i64 E1] 48) := by rw [← hg]; exact Blk.new v2 [.slice A5 n5 c5, .slice A6 n6 c6, .int .i64 E1] _
  have hb : Below v2.heap.size v2 u2 := by rw [← hg]; exact (Below.refl _ _).alloc (Nat.le_refl _) _
  clear hg
  replace R0 := Lib.hid (R0.out.keep hb)
  replace R1 := Lib.hid (R1.out.keep hb)
  replace R3 := Lib.hid (R3.out.keep hb)
  replace R4 := Lib.hid (R4.out.keep hb)
  replace R5 := Lib.hid (R5.out.keep hb)
  replace R6 := Lib.hid (R6.out.keep hb)
  replace E := Lib.hid (E.out.to hb)
  replace T := Lib.hid (T.out.below hb T.out.1)
  clear hb
  obtain ⟨gBX, hgBX⟩ : ∃ g, g = v2.heap.size := ⟨_, rfl⟩
  rw [← hgBX] at BX ⊢
  clear hgBX
  refine (SA.out _ E.out).mono ?_
  rintro e v3 ⟨rfl, hb⟩
  replace R0 := Lib.hid (R0.out.keep hb)
  replace R1 := Lib.hid (R1.out.keep hb)
  replace R3 := Lib.hid (R3.out.keep hb)
  replace R4 := Lib.hid (R4.out.keep hb)
  replace R5 := Lib.hid (R5.out.keep hb)
  replace R6 := Lib.hid (R6.out.keep hb)
  replace BX := Lib.hid (BX.out.below hb BX.out.lt)
  replace E := Lib.hid (E.out.to hb)
  replace T := Lib.hid (T.out.below hb T.out.1)
  clear hb
  have q0 := BX.out.cell (j := 0) rfl
  have q2 := BX.out.cell (j := 2) rfl
  have SM := Lib.hid (same6_v R3.out R5.out (by have := R3.out.len; have := hDl.out.1; omega))
  rw [sameB_refl6] at SM
  go_wp2_with fail
  refine (SM.out).mono ?_
  rintro e v4 ⟨rfl, hb⟩
  replace R0 := Lib.hid (R0.out.keep hb)
  replace R1 := Lib.hid (R1.out.keep hb)
  replace R3 := Lib.hid (R3.out.keep hb)
  replace R4 := Lib.hid (R4.out.keep hb)
  replace R5 := Lib.hid (R5.out.keep hb)
  replace R6 := Lib.hid (R6.out.keep hb)
  replace BX := Lib.hid (BX.out.below hb BX.out.lt)
  replace E := Lib.hid (E.out.to hb)
  replace T := Lib.hid (T.out.below hb T.out.1)
  clear hb
  clear SM q0 q2
  have q1 := BX.out.cell (j := 1) rfl
  have SM := Lib.hid (sameints_v (c := c4) (c' := c6) R4.out R6.out (by have := R4.out.len; have := hDl.out.2; omega))
  rw [sameB_refl6] at SM
  go_wp2_with fail
  refine (SM.out).mono ?_
  rintro e v5 ⟨rfl, hb⟩
  replace R0 := Lib.hid (R0.out.keep hb)
  replace R1 := Lib.hid (R1.out.keep hb)
  replace R3 := Lib.hid (R3.out.keep hb)
  replace R4 := Lib.hid (R4.out.keep hb)
  replace R5 := Lib.hid (R5.out.keep hb)
  replace R6 := Lib.hid (R6.out.keep hb)
  replace BX := Lib.hid (BX.out.below hb BX.out.lt)
  replace E := Lib.hid (E.out.to hb)
  replace T := Lib.hid (T.out.below hb T.out.1)
  clear hb
  clear SM q1
  go_wp2_with fail
  go_ret
  exact ⟨by first | rfl | (go_simp; done), E.out⟩
end Go.Proofs.YtbilfhipmebmlaaDoor
