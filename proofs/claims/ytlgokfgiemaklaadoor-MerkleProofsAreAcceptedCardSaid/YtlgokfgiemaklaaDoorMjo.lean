/-
  Contracts of stage 3: joined, a range over slices.Backward.
-/
import Derived.Test.YtlgokfgiemaklaaDoorBkd
namespace Go.Proofs.YtlgokfgiemaklaaDoor
set_option linter.unusedVariables false
set_option linter.unusedSimpArgs false
open Go.RowKit Go.Shelf
attribute [local go_sem] Oper.semAt_some

/-- The root of parts, the last one's given. -/
def jn (L : List (List UInt8)) (d : List UInt8) : List UInt8 := L.foldr nd d
theorem jn_len {d : List UInt8} (h : d.length = 16) : ∀ L, (jn L d).length = 16
  | [] => h
  | x :: L => nd_len _ _
def jacc (d : List UInt8) (pre : List (Nat × D16d)) : List UInt8 := pre.foldl (fun s c => nd c.2.1 s) d
theorem jacc_snoc (d : List UInt8) (pre : List (Nat × D16d)) (c : Nat × D16d) : jacc d (pre ++ [c]) = nd c.2.1 (jacc d pre) := by simp [jacc]
theorem jacc_len {d : List UInt8} (h : d.length = 16) (pre : List (Nat × D16d)) : (jacc d pre).length = 16 := by
  rcases List.eq_nil_or_concat pre with rfl | ⟨l, a, rfl⟩
  · exact h
  · rw [List.concat_eq_append, jacc_snoc]; exact nd_len _ _
theorem jacc_bkd (L : List (List UInt8)) (hd : D16 L) (d : List UInt8) : ∀ k, k ≤ L.length → jacc d (bkd L hd k) = jn (L.drop (L.length - k)) d := by
  intro k
  induction k with
  | zero => intro _; simp [jacc, bkd, jn]
  | succ k ih =>
    intro hk
    have hlt : L.length - (k + 1) < L.length := by omega
    rw [bkd_succ hd (m := L.length - 1 - k) (by omega), jacc_snoc, ih (by omega), List.drop_eq_getElem_cons hlt, show L.length - (k + 1) + 1 = L.length - k by omega]
    show nd (nx L (L.length - 1 - k)) _ = nd _ (jn _ d)
    congr 1
    unfold nx
    rw [List.getD_eq_getElem?_getD, List.getElem?_eq_getElem (by omega)]
    simp only [Option.getD_some, show L.length - 1 - k = L.length - (k + 1) by omega]
theorem jacc_all (L : List (List UInt8)) (hd : D16 L) (d : List UInt8) : jacc d (bkd L hd L.length) = jn L d := by
  rw [jacc_bkd L hd d _ (Nat.le_refl _), Nat.sub_self]; rfl
theorem blk_kept {W W' : World} {row : Option Nat} {g : Nat} {L : List Value} {t : TypeId} (h : Blk W g L t) (hg : W.grownBy W' row) (hrow : ∀ r, row = some r → ∃ o : Obj, W.heap[r]? = some o ∧ o.isCells = false) : Blk W' g L t :=
  (grownBy_keeps_cells hg hrow h rfl).trans h

set_option maxRecDepth 100000 in
set_option maxHeartbeats 4000000 in
theorem mjoined_any (L : List (List UInt8)) (d : List UInt8) (A : Option Addr) (N c : Nat) (w : World) (hd : D16 L) (hdl : d.length = 16) (hN : L.length = N) (hl : N ≤ 1000000) (hr : Dg w A L) (ht : Tab 2 w) :
    Calls Tryd.prog 53 #[.slice A N c, av d] w fun e w' => e = .returned (av (jn L d)) ∧ Below w.heap.size w w' := by
  refine (callsIn_wide (n := 5)).1 ?_
  have hro : Fence.wide.round = none := rfl
  have HN := Lib.hid (fun a b W (ha : a.length = 16) (hb : b.length = 16) (hT : Tab 2 W) => node_any a b W ha hb hT)
  have ht' := Lib.hid ht
  have hr' := Lib.hid (show Rds w w.heap.size A ((flat L).map bv) from hr)
  have hN' := Lib.hid hN
  have hdl' := Lib.hid hdl
  obtain ⟨W3, hW3⟩ : ∃ W3, W3 = ((w.alloc (.cells (d.map bv).toArray 31)).alloc (.cells (bz 16).toArray 31)).alloc (.cells #[.slice A N c] 22) := ⟨_, rfl⟩
  have hB3 : Below w.heap.size w W3 := by rw [hW3]; exact (((Below.refl _ w).alloc (Nat.le_refl _) _).alloc (by simp) _).alloc (by simp; omega) _
  have hs3 : W3.heap.size = w.heap.size + 3 := by rw [hW3]; simp
  have b1 : Blk W3 w.heap.size (d.map bv) 31 := by rw [hW3]; exact ((Blk.new _ _ _).alloc _).alloc _
  have b2 : Blk W3 (w.heap.size + 1) (bz 16) 31 := by rw [hW3]; exact ((Blk.new _ _ _).at (by simp)).alloc _
  have b3 : Blk W3 (w.heap.size + 1 + 1) [.slice A N c] 22 := by rw [hW3]; exact (Blk.new _ [_] _).at (by simp)
  have hz := Lib.hid (size_dig16 (bz 16) rfl)
  have hW3' := Lib.hid hW3
  clear ht hr hN hdl hW3
  unfold av
  refine callsIn_of_wp_marks Tryd.func53 rfl trivial ?_ hro
  simp only [Tryd.ntmps53, List.size_toArray, List.length_cons, List.length_nil, Nat.reduceAdd, Nat.reduceSub, Array.replicate_succ, Array.replicate_zero, List.push_toArray, List.append_toArray, List.nil_append, List.cons_append]
  gi_wp2_with (refine ⟨trivial, ?_⟩; gi_at_call 77; refine (backwardD_in Fence.wide 4 trivial hro _ _ _ _).mono ?_; rintro e w' ⟨rfl, rfl⟩)
  generalize hg : ((w.alloc _).alloc _).alloc _ = Wg
  have hgW : W3 = Wg := by rw [← hg, hW3'.out]; rfl
  clear hg hW3'
  subst hgW
  refine wpIn_rangeFunc_ownH hro (by omega) (gf := 90) (lb := #[.pointer (some ⟨w.heap.size + 1 + 1, 0, none⟩)]) rfl trivial (enters_of Tryd.func90 (by kernel_rfl) rfl)
    (backwardD_stops Fence.wide 4 trivial hro (by omega) (w.heap.size + 1 + 1) w.heap.size A N c L hd hN'.out (by omega) W3 (by omega) (by omega) (b3.cell rfl) (hr'.out.below hB3)) keepB_t (keepB_b (by omega) (by omega)) (Below.refl _ _) (fun _ => rfl)
    (fun pre W => (Blk W w.heap.size ((jacc d pre).map bv) 31 ∧ Blk W (w.heap.size + 1) (bz 16) 31 ∧ Blk W (w.heap.size + 1 + 1) [.slice A N c] 22) ∧ Below w.heap.size w W)
    (fun _ _ _ => False)
    (OwnFrom.and (Own.from (fun s A B row hs hg hr => ⟨blk_kept hs.1 hg hr, blk_kept hs.2.1 hg hr, blk_kept hs.2.2 hg hr⟩) _) (ownFrom_below (Nat.le_refl _) (by omega)))
    (fun _ _ _ _ _ hs _ _ => hs)
    ⟨⟨b1, b2, b3⟩, hB3⟩
    (fun y a' W => ∃ g, a' = { tmps := #[.slice A N c, .agg (d.map bv).toArray, undef, .pointer (some ⟨w.heap.size, 0, none⟩), .pointer (some ⟨w.heap.size + 1, 0, none⟩), undef, .pointer (some ⟨g, 0, none⟩), .slice A N c, .func (.func 90) #[] #[.pointer (some ⟨w.heap.size + 1 + 1, 0, none⟩)], .int .i64 (y.1 : Int), .agg (y.2.1.map bv).toArray, undef, undef, undef, undef], defers := [] } ∧ Blk W g (y.2.1.map bv) 31 ∧ w.heap.size + 1 + 1 < g)
    (fun y a' s A B row hs hg hr => by obtain ⟨g, h1, h2, h3⟩ := hs; exact ⟨g, h1, blk_kept h2 hg (fun r e => (hr r e).2), h3⟩) ?assign ?body ?done ?stop
  case assign =>
    intro l pre y W K hI hK
    have hyl : (y.2.1.map bv).length = 16 := by rw [List.length_map, y.2.2]
    have hys := Lib.hid (size_dig16 _ hyl)
    have hyo := av_one y.2.1
    have hI' := Lib.hid hI
    obtain ⟨⟨i1, i2, i3⟩, iB⟩ := hI
    have hlt := i3.lt
    have hlt' := Lib.hid hlt
    clear i1 i2 i3 iB hlt
    unfold av
    gi_wp2_with (refine wpListIn_row_store rfl 31 _ _ rfl (y.2.1.map bv) rfl rfl (Blk.new W (bz 16) 31) hys.out (by rw [hyl]; rfl) hyo ?_; intro W2 hW2 ho2)
    have hb2 : Below W.heap.size W W2 := ((Below.refl _ _).alloc (Nat.le_refl _) _).trans (ho2.below (Nat.le_refl _))
    obtain ⟨⟨i1, i2, i3⟩, iB⟩ := hI'.out
    have hG : W.grownBy W2 (some w.heap.size) := Gr.of hb2
    refine hK _ W2 (KeepsFrom.of_grownBy hG (fun j e => by injection e with e; omega)) ⟨hb2.mono iB.size, hb2.cell (p := ⟨w.heap.size + 1 + 1, 0, none⟩) hlt'.out⟩ ⟨⟨i1.below hb2 i1.lt, i2.below hb2 i2.lt, i3.below hb2 i3.lt⟩, iB.trans (hb2.mono iB.size)⟩ ⟨W.heap.size, rfl, hW2.out, hlt'.out⟩
  case body =>
    rintro l pre y a' W hl2 _ ⟨⟨i1, i2, i3⟩, iB⟩ ⟨g, rfl, hy, hlg⟩ _
    have hM := HN.out y.2.1 (jacc d pre) W y.2.2 (jacc_len hdl'.out pre) (ht'.out.below iB ht'.out.1)
    have hs := Lib.hid (jacc_snoc d pre y)
    have hal := jacc_len hdl'.out pre
    have hyl : (y.2.1.map bv).length = 16 := by rw [List.length_map, y.2.2]
    have hys := Lib.hid (size_dig16 _ hyl)
    generalize jacc d pre = v at *
    have hvl : (v.map bv).length = 16 := by rw [List.length_map, hal]
    have hvs := Lib.hid (size_dig16 _ hvl)
    have hml := nd_len y.2.1 v
    have hs2 : Hid (jacc d (pre ++ [y]) = nd y.2.1 v) := hs.out
    clear hs
    generalize nd y.2.1 v = m at *
    have hnl : (m.map bv).length = 16 := by rw [List.length_map, hml]
    have hns := Lib.hid (size_dig16 _ hnl)
    have hno := av_one m
    have hd' : 1 ≤ 5 - 1 - 1 := by omega
    have i1' := Lib.hid i1
    have i2' := Lib.hid i2
    have i3' := Lib.hid i3
    have iB' := Lib.hid iB
    have hy' := Lib.hid hy
    unfold av at hM
    clear i1 i2 i3 iB hy
    gi_wp2_with (first | (refine wpListIn_blk_load rfl 31 _ rfl 0 rfl hy'.out (y.2.1.map bv) (take_all0 _) (.array 16 5) arr_dig rfl hys.out ?_) | (refine wpListIn_blk_load rfl 31 _ rfl 0 rfl i1'.out (v.map bv) (take_all0 _) (.array 16 5) arr_dig rfl hvs.out ?_) | (refine ⟨trivial, ?_⟩; gi_at_call 19; refine (CallsIn.inRound l (callsIn_wide.2 hM)).mono ?_; rintro e w5 ⟨rfl, hb5⟩) | (refine wpListIn_row_store rfl 31 _ _ rfl (m.map bv) rfl rfl (i1'.out.below hb5 i1'.out.lt) hns.out (by rw [hnl, hvl]) hno ?_; intro W6 hW6 ho6))
    have hlt := i3'.out.lt
    have hG : Gr w.heap.size W W6 := (Gr.of hb5).trans (Gr.only ho6)
    have p2 := i2'.out.gr hG (by omega)
    have p3 := i3'.out.gr hG (by omega)
    have hBW : Below w.heap.size W W6 := hG.below (Nat.le_refl _) (by omega)
    exact ⟨KeepsFrom.of_grownBy hG (fun j e => by injection e with e; omega), ⟨hBW, (p3.cell (j := 0) rfl).trans (i3'.out.cell (j := 0) rfl).symm⟩, ⟨⟨by rw [hs2.out]; exact hW6.out, p2, p3⟩, iB'.out.trans hBW⟩⟩
  case done =>
    rintro D ys W hD rfl ⟨⟨i1, i2, i3⟩, hB⟩ hK
    have hall := jacc_all L hd d
    rw [hN'.out] at hall
    rw [hall] at i1
    have hjl := jn_len hdl'.out L
    obtain ⟨m, hm⟩ : ∃ m, m = jn L d := ⟨_, rfl⟩
    have hm' := Lib.hid hm
    rw [← hm] at i1 hjl
    clear hm
    have hnl : (m.map bv).length = 16 := by rw [List.length_map, hjl]
    have hns := Lib.hid (size_dig16 _ hnl)
    have hno := av_one m
    have i1' := Lib.hid i1
    have i2' := Lib.hid i2
    have hB' := Lib.hid hB
    have hlt3 := Lib.hid i3.lt
    have hK' := Lib.hid hK
    clear i1 i2 i3 hall hK hB
    gi_wp2_with (first | (refine wpListIn_blk_load rfl 31 _ rfl 0 rfl i1'.out (m.map bv) (take_all0 _) (.array 16 5) arr_dig rfl hns.out ?_) | (refine wpListIn_row_store rfl 31 _ _ rfl (m.map bv) rfl rfl i2'.out hns.out (by rw [hnl]; rfl) hno ?_; intro W6 hW6 ho6))
    have hDs : D ≠ w.heap.size + 1 := by omega
    have hK6 : W6.heap[D]? = some (.deferred (some [])) := (ho6.block D hDs).trans hK'.out
    refine ⟨by simp, .inl ⟨_, _, rfl, run_takeDeferred hK6, ?_⟩⟩
    have hWD : ∀ o', Blk (W6.putObj D o') (w.heap.size + 1) (m.map bv) 31 := fun o' => (World.putObj_heap_other (Ne.symm hDs)).trans hW6.out
    have hBD : ∀ o', Below w.heap.size w (W6.putObj D o') := fun o' => (hB'.out.trans (ho6.below (by omega))).trans (belowK_b (w := W3) (by omega) W6 D _ o' hD hK6 rfl rfl)
    exact ⟨_, ret_blk rfl _ _ (g := w.heap.size + 1) rfl (hWD _) (.array 16 5) arr_dig rfl hns.out, by rw [← hm'.out], hBD _⟩
  case stop =>
    rintro D c pre W _ _ h _
    exact h.elim
end Go.Proofs.YtlgokfgiemaklaaDoor
