/-
  Stage 3: the reference's Append.
-/
import Derived.Test.YtdikbglemgoocaaDoorRtp
namespace Go.Proofs.YtdikbglemgoocaaDoor
set_option linter.unusedVariables false
set_option linter.unusedSimpArgs false
open Go.RowKit

theorem size_grown : (Tryd.prog.info? 49).map (·.size) = some 3 := by kernel_rfl
theorem row_grown : ∃ d, Tryd.prog.underlying 49 = some d ∧ d.isRow = true := ⟨_, Tryd.underlying49, rfl⟩
theorem one_grown (s : Int) (A : Option Addr) (n c : Nat) (E : Int) : ∀ u ∈ [Value.int .i64 s, Value.slice A n c, Value.int .i64 E], u.oneCell' = true := by
  intro u hu
  simp only [List.mem_cons, List.not_mem_nil, or_false] at hu
  rcases hu with rfl | rfl | rfl <;> rfl
/-- Only new blocks, and one old one, differ. -/
def GrO (r : Option Nat) (w w' : World) : Prop := w.grownBy w' r
theorem GrO.refl (r : Option Nat) (w : World) : GrO r w w := ⟨rfl, rfl, rfl, Nat.le_refl _, fun _ _ _ => rfl⟩
instance (r : Option Nat) (w : World) : Nonempty (ROf (GrO r) w) := ⟨⟨w, GrO.refl r w⟩⟩
theorem GrO.trans {r : Option Nat} {a b c : World} (h : GrO r a b) (k : GrO r b c) : GrO r a c :=
  ⟨k.os.trans h.os, k.tape.trans h.tape, k.output.trans h.output, Nat.le_trans h.size k.size, fun i hi hne => (k.block i (Nat.lt_of_lt_of_le hi h.size) hne).trans (h.block i hi hne)⟩
theorem GrO.of {r : Option Nat} {a b : World} (h : Below a.heap.size a b) : GrO r a b := ⟨h.os, h.tape, h.output, h.size, fun i hi _ => h.block i hi⟩
theorem GrO.below {r : Option Nat} {B : Nat} {a b : World} (h : GrO r a b) (hB : ∀ k, r = some k → B ≤ k) (hs : B ≤ a.heap.size) : Below B a b :=
  ⟨h.os, h.tape, h.output, h.size, fun i hi => h.block i (by omega) (fun e => by have := hB i e.symm; omega)⟩
theorem Blk.gro {r : Option Nat} {g : Nat} {a b : World} {L : List Value} {ty : TypeId} (h : Blk a g L ty) (hg : GrO r a b) (hne : r ≠ some g) : Blk b g L ty := (hg.block g h.lt (fun e => hne e.symm)).trans h
theorem OwnD.apart {w w' : World} {base g : Nat} {v : Value} {L : List (List UInt8)} (h : OwnD w base v L) (ho : Only g w w') (hne : v.ownBlock ≠ some g) : OwnD w' base v L :=
  World.ownsRow.kept h (Gr.only (t := g) ho) (.inr hne)

set_option maxRecDepth 100000 in
set_option maxHeartbeats 1000000 in
theorem refAppend_no (s : Int) (A : Option Addr) (n c : Nat) (leaf : List UInt8) (w : World) (h : pkOk s n = false) :
    Calls Tryd.prog 27 #[pkv s A n c, av leaf] w fun e w' => e = .returned (.agg #[.int .i64 0, .slice none 0 0, .int .i64 1]) ∧ Below w.heap.size w w' := by
  obtain ⟨dd, hdu, hdr⟩ := row_grown
  have hdu' := Lib.hid hdu
  clear hdu
  obtain ⟨dp, hdp, hpr⟩ := row_peaks
  have hdp' := Lib.hid hdp
  clear hdp
  have HO : Hid (∀ W, Calls Tryd.prog 55 #[pkv s A n c] W fun e w' => e = .returned (.bool false) ∧ Below W.heap.size W w') := fun W => by have := formed_any s A n c W; rwa [h] at this
  obtain ⟨lv, hlv⟩ : ∃ lv, lv = leaf.map bv := ⟨_, rfl⟩
  unfold pkv av at *
  rw [← hlv]
  obtain ⟨W3, hW3⟩ : ∃ W3, W3 = ((w.alloc (.cells #[.int .i64 s, .slice A n c] 43)).alloc (.cells lv.toArray 31)).alloc (.cells #[.int .i64 0, .slice none 0 0, .int .i64 0] 49) := ⟨_, rfl⟩
  have hB3 : Hid (Below w.heap.size w W3) := by show Below _ _ _; rw [hW3]; exact below3 _ _ _ _
  have hR3 : Hid (Blk W3 (w.heap.size + 1 + 1) [.int .i64 0, .slice none 0 0, .int .i64 0] 49) := by show Blk _ _ _ _; rw [hW3]; exact (Blk.new _ [_, _, _] _).at (by simp)
  have hK3 : Hid (Blk W3 w.heap.size [.int .i64 s, .slice A n c] 43) := by show Blk _ _ _ _; rw [hW3]; exact ((Blk.new _ [_, _] _).alloc _).alloc _
  have hW3' := Lib.hid hW3
  clear hW3 h hlv
  go_enter Tryd.func27, Tryd.ntmps27
  go_wp2_with fail
  generalize hg : ((w.alloc _).alloc _).alloc _ = Wg
  have hgW : W3 = Wg := by rw [← hg, hW3'.out]
  clear hg hW3'
  subst hgW
  go_wp2_with (refine wpList_blk_load rfl 43 _ rfl 0 rfl hK3.out [.int .i64 s, .slice A n c] (take_all0 _) dp hdp'.out hpr size_peaks ?_)
  refine (HO.out _).mono ?_
  rintro e w4 ⟨rfl, hb4⟩
  have hR4 := Lib.hid (hR3.out.below hb4 hR3.out.lt)
  have hB4 := Lib.hid (hB3.out.trans (hb4.mono hB3.out.size))
  clear hb4
  go_wp2_with (refine wpList_row_store rfl 49 _ _ rfl [.int .i64 0, .slice none 0 0, .int .i64 1] rfl rfl hR4.out size_grown rfl (one_grown 0 none 0 0 1) ?_; intro w5 hW5 ho5)
  exact bodyPost_ret (ret_blk rfl _ w5 (g := w.heap.size + 1 + 1) rfl hW5.out dd hdu'.out hdr size_grown) rfl ⟨rfl, hB4.out.trans (ho5.below (by omega))⟩

set_option maxRecDepth 100000 in
set_option maxHeartbeats 1000000 in
theorem refAppend_limit (A : Option Addr) (n c : Nat) (leaf : List UInt8) (w : World) (h : pkOk 1099511627776 n = true) :
    Calls Tryd.prog 27 #[pkv 1099511627776 A n c, av leaf] w fun e w' => e = .returned (.agg #[.int .i64 0, .slice none 0 0, .int .i64 2]) ∧ Below w.heap.size w w' := by
  obtain ⟨dd, hdu, hdr⟩ := row_grown
  have hdu' := Lib.hid hdu
  clear hdu
  obtain ⟨dp, hdp, hpr⟩ := row_peaks
  have hdp' := Lib.hid hdp
  clear hdp
  have HO : Hid (∀ W, Calls Tryd.prog 55 #[pkv 1099511627776 A n c] W fun e w' => e = .returned (.bool true) ∧ Below W.heap.size W w') := fun W => by have := formed_any 1099511627776 A n c W; rwa [h] at this
  obtain ⟨lv, hlv⟩ : ∃ lv, lv = leaf.map bv := ⟨_, rfl⟩
  unfold pkv av at *
  rw [← hlv]
  obtain ⟨W3, hW3⟩ : ∃ W3, W3 = ((w.alloc (.cells #[.int .i64 1099511627776, .slice A n c] 43)).alloc (.cells lv.toArray 31)).alloc (.cells #[.int .i64 0, .slice none 0 0, .int .i64 0] 49) := ⟨_, rfl⟩
  have hB3 : Hid (Below w.heap.size w W3) := by show Below _ _ _; rw [hW3]; exact below3 _ _ _ _
  have hR3 : Hid (Blk W3 (w.heap.size + 1 + 1) [.int .i64 0, .slice none 0 0, .int .i64 0] 49) := by show Blk _ _ _ _; rw [hW3]; exact (Blk.new _ [_, _, _] _).at (by simp)
  have hK3 : Hid (Blk W3 w.heap.size [.int .i64 1099511627776, .slice A n c] 43) := by show Blk _ _ _ _; rw [hW3]; exact ((Blk.new _ [_, _] _).alloc _).alloc _
  have hW3' := Lib.hid hW3
  clear hW3 h hlv
  go_enter Tryd.func27, Tryd.ntmps27
  go_wp2_with fail
  generalize hg : ((w.alloc _).alloc _).alloc _ = Wg
  have hgW : W3 = Wg := by rw [← hg, hW3'.out]
  clear hg hW3'
  subst hgW
  go_wp2_with (refine wpList_blk_load rfl 43 _ rfl 0 rfl hK3.out [.int .i64 1099511627776, .slice A n c] (take_all0 _) dp hdp'.out hpr size_peaks ?_)
  refine (HO.out _).mono ?_
  rintro e w4 ⟨rfl, hb4⟩
  have hR4 := Lib.hid (hR3.out.below hb4 hR3.out.lt)
  have hK4 := hK3.out.below hb4 hK3.out.lt
  have c0 := hK4.cell (j := 0) rfl
  have hB4 := Lib.hid (hB3.out.trans (hb4.mono hB3.out.size))
  clear hb4 hK4
  go_wp2_with (refine wpList_row_store rfl 49 _ _ rfl [.int .i64 0, .slice none 0 0, .int .i64 2] rfl rfl hR4.out size_grown rfl (one_grown 0 none 0 0 2) ?_; intro w5 hW5 ho5)
  exact bodyPost_ret (ret_blk rfl _ w5 (g := w.heap.size + 1 + 1) rfl hW5.out dd hdu'.out hdr size_grown) rfl ⟨rfl, hB4.out.trans (ho5.below (by omega))⟩

/-- What is appended when the number q is left. -/
def apG (q : Nat) (M : List (List UInt8)) (T : List UInt8) : List (List UInt8) := M.take (M.length - tro 64 q) ++ [jn (M.drop (M.length - tro 64 q)) T]
theorem tro_more : ∀ (f z : Nat), z < 2 ^ f → tro (f + 1) z = tro f z
  | 0, z, h => by
    obtain rfl : z = 0 := by simpa using h
    rfl
  | f + 1, z, h => by
    rw [tro]
    conv => rhs; rw [tro]
    split
    · rw [tro_more f (z / 2) (by rw [Nat.pow_succ] at h; omega)]
    · rfl
theorem apG_step {q k : Nat} {M : List (List UInt8)} {x T : List UInt8} (hq : q % 2 = 1) (h6 : q < 2 ^ 63) (hk : M.length = k + 1) (hx : M[k]? = some x) (ht : tro 64 q ≤ M.length) : apG q M T = apG (q / 2) (M.take k) (nd x T) ∧ tro 64 (q / 2) ≤ (M.take k).length := by
  have e : tro 64 q = 1 + tro 64 (q / 2) := by
    rw [tro, if_pos hq, tro_more 63 (q / 2) (by omega)]
  have hl : (M.take k).length = k := by rw [List.length_take]; omega
  constructor
  · unfold apG
    rw [hl, e, hk, show k + 1 - (1 + tro 64 (q / 2)) = k - tro 64 (q / 2) by omega, List.take_take, show min (k - tro 64 (q / 2)) k = k - tro 64 (q / 2) by omega]
    have hM : M = M.take k ++ [x] := by
      have h2 : M.drop k = [x] := by
        rw [List.drop_eq_getElem_cons (by omega), List.drop_eq_nil_of_le (by omega), (List.getElem?_eq_some_iff.1 hx).2]
      have h3 := List.take_append_drop k M
      rw [h2] at h3
      exact h3.symm
    generalize M.take k = P at hM hl
    subst hM
    rw [List.drop_append_of_le_length (by omega), List.take_append_of_le_length (by omega)]
    unfold jn
    rw [List.foldr_append]
    rfl
  · omega
theorem apG_end {q : Nat} {M : List (List UInt8)} {T : List UInt8} (hq : q % 2 ≠ 1) : apG q M T = M ++ [T] := by
  have e : tro 64 q = 0 := by rw [tro, if_neg hq]
  unfold apG
  rw [e, Nat.sub_zero, List.take_of_length_le (Nat.le_refl _), List.drop_eq_nil_of_le (Nat.le_refl _)]
  rfl

set_option maxRecDepth 100000 in
set_option maxHeartbeats 4000000 in
theorem refAppend_ok (z : Nat) (L : List (List UInt8)) (A : Option Addr) (n c : Nat) (leaf : List UInt8) (w : World) (hz : z < 1099511627776) (hok : pkOk z n = true) (hV : DV w A n c L) (hleaf : leaf.length = 16) (hn6 : n ≤ 100000) (ht : Tab 3 w) :
    Calls Tryd.prog 27 #[pkv z A n c, av leaf] w fun e w' => ∃ A n c, e = .returned (.agg #[.int .i64 ((z + 1 : Nat) : Int), .slice A n c, .int .i64 0]) ∧ DV w' A n c (apL z L leaf) ∧ Below w.heap.size w w' := by
  have hpop := (pkOk_pop hok).2
  have htn : tro 64 z ≤ L.length := by rw [← hV.len, hpop, ← ones_pop z (by omega)]; exact tro_le 64 z
  obtain ⟨dd, hdu, hdr⟩ := row_grown
  have hdu' := Lib.hid hdu
  clear hdu
  obtain ⟨dp, hdp, hpr⟩ := row_peaks
  have hdp' := Lib.hid hdp
  clear hdp
  have HO : Hid (∀ W, Calls Tryd.prog 55 #[pkv z A n c] W fun e w' => e = .returned (.bool true) ∧ Below W.heap.size W w') := fun W => by
    have := formed_any z A n c W
    rwa [hok] at this
  have HN : Hid (∀ a b W, a.length = 16 → b.length = 16 → Tab 3 W → Calls Tryd.prog 20 #[av a, av b] W fun e w' => e = .returned (av (nd a b)) ∧ Below W.heap.size W w') := fun a b W ha hb hT => refNode_any a b W ha hb hT
  have h0 : Hid (apG z L leaf = apL z L leaf) := rfl
  have htn' := Lib.hid htn
  have hLn := Lib.hid hV.len
  have hleaf' := Lib.hid hleaf
  have hl1 : (leaf.map bv).length = 16 := by rw [List.length_map, hleaf]
  have hls := Lib.hid (size_dig16 (leaf.map bv) hl1)
  have hlo := av_one leaf
  have t0 : ((z : Int) == 1099511627776) = false := by simp; omega
  have hVd := Lib.hid hV.d16
  unfold pkv av at *
  obtain ⟨W3, hW3⟩ : ∃ W3, W3 = ((w.alloc (.cells #[.int .i64 z, .slice A n c] 43)).alloc (.cells (leaf.map bv).toArray 31)).alloc (.cells #[.int .i64 0, .slice none 0 0, .int .i64 0] 49) := ⟨_, rfl⟩
  have hB3 : Hid (Below w.heap.size w W3) := by show Below _ _ _; rw [hW3]; exact below3 _ _ _ _
  have hR3 : Hid (Blk W3 (w.heap.size + 1 + 1) [.int .i64 0, .slice none 0 0, .int .i64 0] 49) := by show Blk _ _ _ _; rw [hW3]; exact (Blk.new _ [_, _, _] _).at (by simp)
  have hK3 : Hid (Blk W3 w.heap.size [.int .i64 z, .slice A n c] 43) := by show Blk _ _ _ _; rw [hW3]; exact ((Blk.new _ [_, _] _).alloc _).alloc _
  have hF3 : Hid (Blk W3 (w.heap.size + 1) (leaf.map bv) 31) := by show Blk _ _ _ _; rw [hW3]; exact ((Blk.new _ _ _).at (by simp)).alloc _
  have hV3 := Lib.hid (hV.keep hB3.out)
  have hT3 := Lib.hid (ht.on hB3.out)
  have hW3' := Lib.hid hW3
  clear hW3 ht hok hV hpop htn hleaf
  go_enter Tryd.func27, Tryd.ntmps27
  go_wp2_with fail
  generalize hg : ((w.alloc _).alloc _).alloc _ = Wg
  have hgW : W3 = Wg := by rw [← hg, hW3'.out]
  clear hg hW3'
  subst hgW
  go_wp2_with (refine wpList_blk_load rfl 43 _ rfl 0 rfl hK3.out [.int .i64 z, .slice A n c] (take_all0 _) dp hdp'.out hpr size_peaks ?_)
  refine (HO.out _).mono ?_
  rintro e w4 ⟨rfl, hb4⟩
  have hR4 := Lib.hid (hR3.out.below hb4 hR3.out.lt)
  have hK4 := Lib.hid (hK3.out.below hb4 hK3.out.lt)
  have hF4 := Lib.hid (hF3.out.below hb4 hF3.out.lt)
  have c0 := hK4.out.cell (j := 0) rfl
  have hB4 := Lib.hid (hB3.out.trans (hb4.mono hB3.out.size))
  have hT4 := Lib.hid (hT3.out.on hb4)
  have hV4 := Lib.hid (hV3.out.keep hb4)
  clear hb4 hR3 hK3 hF3 hB3 hT3 hV3
  have hba : Below w4.heap.size w4 (w4.alloc (.cells #[] 31)) := (Below.refl _ _).alloc (Nat.le_refl _) _
  have hba' := Lib.hid hba
  have c1 : (w4.alloc (.cells #[] 31)).cell? ⟨w.heap.size, 1, none⟩ = some (.slice A n c) := (hK4.out.below hba hK4.out.lt).cell (j := 1) rfl
  have hVa := Lib.hid (hV4.out.keep hba)
  have hOa := Lib.hid (ownD_made w4 w4.heap.size (Nat.le_refl _))
  clear hba
  go_upto_region 7 with (refine push_digs rfl _ _ rfl w4.heap.size _ [] L hVa.out.d16 _ A n c hVa.out.len hVa.out.nil rfl rfl hVa.out.rd hOa.out (by have h1 := hLn.out; simp only [List.length_nil]; omega) hba'.out.size ?_; intro v5 w5 hO5 hb5 hgr5)
  have hb45 := Lib.hid (hba'.out.trans hb5)
  have hO5' : Hid (OwnD w5 w4.heap.size v5 L) := hO5
  have hlt5 := Lib.hid (fun k hk => (hO5'.out.lt k hk).2)
  obtain ⟨A5, n5, c5, rfl, hD5⟩ := hO5'.out.dv hVd.out
  have hn5 := Lib.hid hD5.len
  have hF5 := Lib.hid (hF4.out.below hb45.out hF4.out.lt)
  have hK5 := Lib.hid (hK4.out.below hb45.out hK4.out.lt)
  clear hb5 hgr5 hO5 c0 c1 hVa hOa hba' hD5
  go_wp2_with (first | (refine wpList_blk_load rfl 31 _ rfl 0 rfl hF5.out (leaf.map bv) (take_all0 _) (.array 16 5) arr_dig rfl hls.out ?_) | (refine wpList_row_store rfl 31 _ _ rfl (leaf.map bv) rfl rfl (Blk.new w5 (bz 16) 31) hls.out (by rw [hl1]; rfl) hlo ?_; intro w6 hW6 ho6; have hb6 : Below w5.heap.size w5 w6 := ((Below.refl _ _).alloc (Nat.le_refl _) _).trans (ho6.below (Nat.le_refl _)); have c0' := (hK5.out.below hb6 hK5.out.lt).cell (j := 0) rfl))
  have hst1 : Hid (OwnD w6 w4.heap.size (.slice A5 n5 c5) L ∧ (Value.slice A5 n5 c5).ownBlock ≠ some w5.heap.size ∧ D16 L ∧ n5 = L.length) :=
    ⟨hO5'.out.below hb6 (Nat.le_refl _), fun h => by have := hlt5.out _ h; omega, hVd.out, hn5.out⟩
  have hst2 : Hid (Blk w6 w5.heap.size (leaf.map bv) 31 ∧ leaf.length = 16) := ⟨hW6.out, hleaf'.out⟩
  have hst3 : Hid (apG z L leaf = apL z L leaf ∧ tro 64 z ≤ L.length) := ⟨rfl, htn'.out⟩
  have hst4 : Hid (Below w4.heap.size w4 w6 ∧ w5.heap.size < w6.heap.size) := ⟨hb45.out.trans (hb6.mono hb45.out.size), hW6.out.lt⟩
  have hn5' : n5 ≤ 100000 := by have h1 := hn5.out; have h2 := hLn.out; omega
  have hs4 := Lib.hid hR4.out.lt
  have hs5 := Lib.hid hb45.out.size
  clear hW6 ho6 hb6 c0' hO5' hF5 hK5 hlt5 hn5 hl1 hlo hls hb45 h0 htn' hF4 hV4
  go_loopw [6, 8] (fun v u wr => ∃ (q n' c' : Nat) (A' : Option Addr) (M : List (List UInt8)) (T : List UInt8), v = .slice A' n' c' ∧ u = .int .i64 q ∧ q ≤ z ∧ n' ≤ 100000 ∧ Hid (OwnD wr w4.heap.size (.slice A' n' c') M ∧ (Value.slice A' n' c').ownBlock ≠ some w5.heap.size ∧ D16 M ∧ n' = M.length) ∧ Hid (Blk wr w5.heap.size (T.map bv) 31 ∧ T.length = 16) ∧ Hid (apG q M T = apL z L leaf ∧ tro 64 q ≤ M.length) ∧ Hid (Below w4.heap.size w4 wr ∧ w5.heap.size < wr.heap.size)) (fun _ u _ => (intOf u).toNat)
  case atStart => exact ⟨z, n5, c5, A5, L, leaf, rfl, rfl, Nat.le_refl _, hn5', hst1, hst2, hst3, hst4⟩
  case round =>
    obtain ⟨q, n1, c1, A1, M, T, rfl, rfl, hqz, hn1, h1, h2, h3, h4⟩ := hrel
    have hRr := Lib.hid (hR4.out.below h4.out.1 hR4.out.lt)
    have hKr := Lib.hid (hK4.out.below h4.out.1 hK4.out.lt)
    have hBr := Lib.hid (hB4.out.trans (h4.out.1.mono hB4.out.size))
    have hTr := Lib.hid (hT4.out.on h4.out.1)
    obtain ⟨A2, n2, c2, hv, hDV⟩ := h1.out.1.dv h1.out.2.2.1
    injection hv with hv1 hv2 hv3
    subst hv1 hv2 hv3
    have hDV' := Lib.hid hDV
    clear hDV hst1 hst2 hst3 hst4 hn5'
    have hT16 := h2.out.2
    have hT1 : (T.map bv).length = 16 := by rw [List.length_map, hT16]
    have hTs := Lib.hid (size_dig16 (T.map bv) hT1)
    have hT16' := Lib.hid hT16
    have hT1' := Lib.hid hT1
    clear hT16 hT1
    by_cases hq : q % 2 = 1
    · obtain ⟨k, hk⟩ : ∃ k, n1 = k + 1 := ⟨n1 - 1, by
        have a1 := h3.out.2
        have a2 := hDV'.out.len
        have e : tro 64 q = 1 + tro 63 (q / 2) := by rw [tro, if_pos hq]
        omega⟩
      have hkl : k < M.length := by have := hDV'.out.len; omega
      obtain ⟨x, hx⟩ : ∃ x, M[k]? = some x := ⟨_, List.getElem?_eq_getElem hkl⟩
      have hxl : x.length = 16 := h1.out.2.2.1 x (List.mem_of_getElem? hx)
      have hstep := Lib.hid (apG_step (T := T) hq (by omega) (by rw [← hDV'.out.len]; exact hk) hx h3.out.2)
      obtain ⟨ad, hA1⟩ : ∃ ad, A1 = some ad := by
        obtain ⟨ad', he, _⟩ := hDV'.out.rd.at h1.out.2.2.1 hx
        exact ⟨ad', he⟩
      subst hA1
      have hLx : Hid (∀ W, Below wr.heap.size wr W → ∀ j v, (x.map bv)[j]? = some v → W.cell? ((ad.add (k * 16)).add j) = some v) := fun W hB => by
        obtain ⟨ad', he, _, _, hcc⟩ := (hDV'.out.keep hB).rd.at h1.out.2.2.1 hx
        injection he with he
        subst he
        exact hcc
      obtain ⟨r, hr⟩ : ∃ r, r = q / 2 := ⟨_, rfl⟩
      rw [← hr] at hstep
      have e1 : (q : Int) % 2 = 1 := by omega
      have e2 : (q : Int) / 2 = (r : Int) := by omega
      have e3 : (n1 : Int) - 1 = (k : Int) := by omega
      have ew : IntKind.i64.wrap (k : Int) = (k : Int) := by rw [IntKind.wrap_i64]; omega
      have j1 : (k : Int) < (n1 : Int) := by omega
      have hcc := hDV'.out.cap
      have j2 : (k : Int) ≤ (c1 : Int) := by omega
      have hr6 : Hid (r < q ∧ r ≤ z) := ⟨by omega, by omega⟩
      have hk5 : Hid (k ≤ 100000) := by show _ ≤ _; omega
      have hkM : Hid (k = (M.take k).length) := by show _ = _; rw [List.length_take]; omega
      have hN := Lib.hid (fun W hT => HN.out x T W hxl hT16'.out hT)
      have hml := nd_len x T
      generalize nd x T = y at hN hstep hml
      have hx1 : (x.map bv).length = 16 := by rw [List.length_map, hxl]
      have hxs := Lib.hid (size_dig16 (x.map bv) hx1)
      have hy1 : (y.map bv).length = 16 := by rw [List.length_map, hml]
      have hys := Lib.hid (size_dig16 (y.map bv) hy1)
      have hyo := av_one y
      have hy1' := Lib.hid (hy1.trans hT1'.out.symm)
      have hml' := Lib.hid hml
      clear hx hxl hml hkl hx1 hy1 hr hk hq hcc
      go_wp2_with fail
      have hd3 : Below wr.heap.size wr wr.drew := (Below.refl _ _).drew
      refine wp_region_planR (R := Below wr.heap.size) (fun w => Below.refl _ w) (fun _ _ _ h k => h.trans k) [8] [(true, 0), (true, 1), (true, 2), (true, 3), (true, 4), (true, 5), (true, 6), (false, 7), (false, 8)] (by decide) (by kernel_rfl) (by kernel_rfl) (by decide) (by intro c a d v w h; cases d <;> exact h) ?_
      change wpPlanR _ _ _ _ _ _ _ wr.drew
      have hne : Nonempty (ROf (Below wr.heap.size) wr.drew) := ⟨⟨_, Below.refl _ _⟩⟩
      iterate 5 (refine wpPlanR_plain rfl (fun K hK => ?_); go_simp; refine hK _ ?_; clear hK K)
      refine wpPlanR_runW rfl (by rfl) _ (fun q => load_arr_run 31 _ rfl (ad.add (k * 16)) rfl (x.map bv) 16 5 q.world (hLx.out _ (hd3.trans q.rel)) arr_dig hxs.out) ?_
      refine wpPlanR_runW rfl (by rfl) _ (fun q => load_run 31 _ rfl w5.heap.size 0 rfl (T.map bv) (.array 16 5) arr_dig rfl hTs.out q.world ((h2.out.1.below (hd3.trans q.rel) h4.out.2).range 0 _ (take_all0 _))) ?_
      refine wpPlanR_call rfl (fun K hK => ?_)
      go_wp2_with fail
      refine (hN.out _ (hTr.out.on hd3)).mono ?_
      rintro e wn ⟨rfl, hbn⟩
      go_wp2_with fail
      refine planPostR_normal ⟨.inr hbn, hK _ _ ?_⟩
      clear hK K
      have hb3 := hd3.trans hbn
      have hTn := Lib.hid (h2.out.1.below hb3 h4.out.2)
      have hOn := Lib.hid (h1.out.1.below hb3 (Nat.le_refl _))
      refine wpPlanR_call rfl (fun K hK => ?_)
      refine wpList_row_store rfl 31 _ _ rfl (y.map bv) rfl rfl hTn.out hys.out hy1'.out hyo ?_
      intro w7 hW7 ho7
      refine wpList_end (planPostR_normal ⟨.inl (by first | trivial | simp), hK _ _ ?_⟩)
      clear hK K
      refine wpPlanR_nil ?_
      have hO7 := hOn.out.apart ho7 h1.out.2.1
      have hD7 : DV w7 (some ad) n1 c1 M := DV.of hO7 h1.out.2.2.1
      have hW7' := Lib.hid hW7.out
      have hlt7 := Lib.hid hW7.out.lt
      have hB7 : Hid (Below w4.heap.size w4 w7) := (h4.out.1.trans (hb3.mono h4.out.1.size)).trans (ho7.below hs5.out)
      have hba : Below w7.heap.size w7 (w7.alloc (.cells #[] 31)) := (Below.refl _ _).alloc (Nat.le_refl _) _
      have hba' := Lib.hid hba
      have hDa := Lib.hid (hD7.keep hba)
      have hOa := Lib.hid (ownD_made w7 w7.heap.size (Nat.le_refl _))
      have hdM := Lib.hid (h1.out.2.2.1.take k)
      clear hO7 hD7 hW7 ho7 hb3 hbn hd3 hne hba
      go_wp2_with (refine push_digs rfl _ _ rfl w7.heap.size _ [] (M.take k) hdM.out _ (some ad) k c1 hkM.out (fun h => by cases h) rfl rfl (Dg.take hDa.out.rd hDa.out.d16 k) hOa.out (by have a1 := hk5.out; have a2 := hkM.out; simp only [List.length_nil]; omega) hba'.out.size ?_; intro v8 w8 hO8 hb8 hgr8; obtain ⟨A8, n8, c8, rfl, hD8⟩ := hO8.dv hdM.out)
      have hb78 := hba'.out.trans hb8
      have hO8' : OwnD w8 w7.heap.size (.slice A8 n8 c8) (M.take k) := hO8
      have hn8 : n8 ≤ 100000 := by have a1 := hk5.out; have a2 := hkM.out; have a3 : n8 = (M.take k).length := hD8.len; omega
      have f1 : Hid (OwnD w8 w4.heap.size (.slice A8 n8 c8) (M.take k) ∧ (Value.slice A8 n8 c8).ownBlock ≠ some w5.heap.size ∧ D16 (M.take k) ∧ n8 = (M.take k).length) :=
        ⟨hO8'.lower hB7.out.size, fun h => by have := (hO8'.lt _ h).1; have := hlt7.out; omega, hdM.out, hD8.len⟩
      have f2 : Hid (Blk w8 w5.heap.size (y.map bv) 31 ∧ y.length = 16) := ⟨hW7'.out.below hb78 hlt7.out, hml'.out⟩
      have f3 : Hid (apG r (M.take k) y = apL z L leaf ∧ tro 64 r ≤ (M.take k).length) := ⟨by rw [← hstep.out.1]; exact h3.out.1, hstep.out.2⟩
      have f4 : Hid (Below w4.heap.size w4 w8 ∧ w5.heap.size < w8.heap.size) := ⟨hB7.out.trans (hb78.mono hB7.out.size), Nat.lt_of_lt_of_le hlt7.out hb78.size⟩
      have hrq := hr6.out.1
      have hrz := hr6.out.2
      clear hO8 hb8 hgr8 hb78 hO8' hD8
      go_roundw
      case rel => exact ⟨r, n8, c8, A8, M.take k, y, rfl, by go_num, hrz, hn8, f1, f2, f3, f4⟩
      case measure => simp [intOf]; omega
    · have e1 : (q : Int) % 2 = 0 := by omega
      have ew : IntKind.i64.wrap ((z : Int) + 1) = (z : Int) + 1 := by rw [IntKind.wrap_i64]; omega
      have hfin : Hid (M ++ [T] = apL z L leaf) := by have h := h3.out.1; rwa [apG_end hq] at h
      have hdF := Lib.hid (d16_app h1.out.2.2.1 (d16_one hT16'.out))
      obtain ⟨ro, hro⟩ : ∃ ro, ro = (Value.slice A1 n1 c1).ownBlock := ⟨_, rfl⟩
      have hro' := Lib.hid hro
      have hrn : Hid (∀ g, g < w4.heap.size → ro ≠ some g) := fun g hg h => by
        have := (h1.out.1.lt g (by rw [← hro]; exact h)).1
        omega
      have hrt : Hid (ro ≠ some w5.heap.size) := by show _ ≠ _; rw [hro]; exact h1.out.2.1
      clear hro hq
      go_wp2_with fail
      have hd3 : Below wr.heap.size wr wr.drew := (Below.refl _ _).drew
      have hg3 : GrO ro wr wr.drew := GrO.of hd3
      have hlt0 : w.heap.size < w4.heap.size := by have := hs4.out; omega
      have q0 : ∀ x : ROf (GrO ro) wr.drew, x.world.cell? ⟨w.heap.size, 0, none⟩ = some (.int .i64 z) := fun x => (hKr.out.gro (hg3.trans x.rel) (hrn.out _ hlt0)).cell (j := 0) rfl
      refine wp_region_planR (R := GrO ro) (fun w => GrO.refl _ w) (fun _ _ _ h k => h.trans k) [9] [(true, 0), (true, 1), (true, 2), (true, 3), (true, 4), (false, 5), (false, 6), (true, 7), (true, 8), (false, 9)] (by decide) (by kernel_rfl) (by kernel_rfl) (by decide) (by intro c a d v w h; cases d <;> exact h) ?_
      change wpPlanR _ _ _ _ _ _ _ wr.drew
      iterate 4 (refine wpPlanR_plain rfl (fun K hK => ?_); go_simp; refine hK _ ?_; clear hK K)
      refine wpPlanR_runW rfl (by rfl) _ (fun q => load_run 31 _ rfl w5.heap.size 0 rfl (T.map bv) (.array 16 5) arr_dig rfl hTs.out q.world ((h2.out.1.gro (hg3.trans q.rel) hrt.out).range 0 _ (take_all0 _))) ?_
      refine wpPlanR_call rfl (fun K hK => ?_)
      refine step_build_dg rfl _ rfl T hT16'.out rfl ?_
      have hba : Below wr.drew.heap.size wr.drew (wr.drew.alloc (.cells (T.map bv).toArray 31)) := (Below.refl _ _).alloc (Nat.le_refl _) _
      refine wpList_end (planPostR_normal ⟨.inr (GrO.of hba), hK _ _ ?_⟩)
      clear hK K
      have hN7 := Lib.hid (Blk.new wr.drew (T.map bv) 31)
      have hO7 : Hid (OwnD (wr.drew.alloc (.cells (T.map bv).toArray 31)) w4.heap.size (.slice A1 n1 c1) M) := World.ownsRow.alloc (h1.out.1.below hd3 (Nat.le_refl _)) _
      have hg7 : GrO ro wr (wr.drew.alloc (.cells (T.map bv).toArray 31)) := hg3.trans (GrO.of hba)
      have hg7' := Lib.hid hg7
      have hl7 : Hid (M.length + [T].length ≤ 1000000000000) := by have a1 := hDV'.out.len; show _ + _ ≤ _; simp only [List.length_cons, List.length_nil]; omega
      have hs7 : Hid (w4.heap.size ≤ (wr.drew.alloc (.cells (T.map bv).toArray 31)).heap.size) := Nat.le_trans h4.out.1.size hg7.size
      clear hba hg7 hg3 q0
      generalize wr.drew.heap.size = gN at hN7 ⊢
      generalize wr.drew.alloc (.cells (T.map bv).toArray 31) = w7 at hN7 hO7 hg7' hs7 ⊢
      have hrd : Hid (Dg w7 (some ⟨gN, 0, none⟩) [T]) := by
        show Rds _ _ _ _
        have h := hN7.out.rds 0 (T.map bv).length
        rw [List.drop_zero, List.take_of_length_le (Nat.le_refl _)] at h
        rw [flat_one]
        exact h
      refine wpPlanR_call rfl (fun K hK => ?_)
      refine push_digs rfl _ _ rfl w4.heap.size _ M [T] (d16_one hT16'.out) _ (some ⟨gN, 0, none⟩) 1 1 rfl (fun h => by cases h) rfl rfl hrd.out hO7.out hl7.out hs7.out ?_
      intro v8 w8 ho8 hb8 hgr8
      obtain ⟨A8, n8, c8, rfl, hD8⟩ := ho8.dv hdF.out
      have hg78 : GrO ro w7 w8 := by rw [hro'.out]; exact hgr8
      refine wpList_end (planPostR_normal ⟨.inr hg78, hK _ _ ?_⟩)
      clear hK K
      have hg8 := Lib.hid (hg7'.out.trans hg78)
      have hO8 := Lib.hid ho8
      have hR8 := Lib.hid (hRr.out.gro hg8.out (hrn.out _ hs4.out))
      clear ho8 hb8 hgr8 hD8 hg78
      iterate 2 (refine wpPlanR_plain rfl (fun K hK => ?_); go_simp; refine hK _ ?_; clear hK K)
      refine wpPlanR_call rfl (fun K hK => ?_)
      refine wpList_row_store rfl 49 _ _ rfl [.int .i64 ((z : Int) + 1), .slice A8 n8 c8, .int .i64 0] rfl rfl hR8.out size_grown rfl (one_grown _ _ _ _ _) ?_
      intro w9 hW9 ho9
      refine wpList_end (planPostR_normal ⟨.inl (by first | trivial | simp), hK _ _ ?_⟩)
      clear hK K
      refine wpPlanR_nil ?_
      go_wp2_with fail
      have hO9 : OwnD w9 w4.heap.size (.slice A8 n8 c8) (M ++ [T]) := OwnD.only hO8.out ho9 hs4.out
      have hB9 : Below w.heap.size w w9 := (hBr.out.trans (hg8.out.below (fun k hk => by
        have := hs4.out
        rcases Nat.lt_or_ge k w4.heap.size with h | h
        · exact absurd hk (hrn.out _ h)
        · omega) hBr.out.size)).trans (ho9.below (by omega))
      exact bodyPost_ret (ret_blk rfl _ w9 (g := w.heap.size + 1 + 1) rfl hW9.out dd hdu'.out hdr size_grown) rfl ⟨A8, n8, c8, by rw [Int.natCast_add]; rfl, by rw [← hfin.out]; exact DV.of hO9 hdF.out, hB9⟩
end Go.Proofs.YtdikbglemgoocaaDoor
