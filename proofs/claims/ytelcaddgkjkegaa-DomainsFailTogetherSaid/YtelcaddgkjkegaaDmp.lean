/-
  Stage 10 (domain): Holds.
-/
import Derived.Test.YtelcaddgkjkegaaDmo
namespace Go.Proofs.Ytelcaddgkjkegaa
set_option linter.unusedVariables false
set_option linter.unusedSimpArgs false
open Go.RowKit Go.Shelf
attribute [local go_sem] Oper.semAt_some

theorem blk_setD {W : World} {g : Nat} {L : List Value} {t : TypeId} (n : Nat) (v' : Value) (h : Blk W g L t) : Blk (W.setCell ⟨g, n, none⟩ v') g (L.set n v') t := by
  obtain ⟨hlt, hk⟩ := Array.getElem?_eq_some_iff.1 h
  show (W.heap.modify g _)[g]? = _
  rw [Array.getElem?_eq_getElem (by rw [Array.size_modify]; exact hlt), Array.getElem_modify_self, hk]
  show some (Obj.cells (L.toArray.setIfInBounds n v') t (0, 0)) = _
  rw [List.setIfInBounds_toArray]
theorem blk_frozenD {W : World} {g : Nat} {L : List Value} {t : TypeId} (n : Nat) (h : Blk W g L t) : W.frozen? ⟨g, n, none⟩ = false := by simp [World.frozen?, show W.heap[g]? = _ from h]
theorem keepI_set2 {W : World} {B b n : Nat} {bs : List Nat} {L : List Value} {v' : Value} (hv : Blk W b L 3) (hB : B ≤ b) (hbs : ∀ x ∈ bs, x ≠ b) : KeepI B bs W (W.setCell ⟨b, n, none⟩ v') := by
  refine ⟨⟨(Below.refl B W).setCell (p := ⟨b, n, none⟩) hB v', fun g L t h1 h2 hk => ?_⟩, fun x hx => Below.heap_setCell _ _ _ _ (hbs x hx)⟩
  refine (Below.heap_setCell _ _ _ _ ?_).trans hk
  rintro rfl
  have := (show W.heap[g]? = _ from hk).symm.trans hv
  simp at this
  exact h1 this.2
/-- How many of the pieces that have come are in each domain. -/
def cntL {d : Dm} {lv : Int} (sz : Nat) (pre : List (PN d lv)) : List Int := (List.range sz).map fun n => (((pre.filter fun p => p.1.2 == n).length : Nat) : Int)
theorem cntL_len {d : Dm} {lv : Int} (sz : Nat) (pre : List (PN d lv)) : (cntL sz pre).length = sz := by simp [cntL]
theorem cntL_at {d : Dm} {lv : Int} {sz n : Nat} (pre : List (PN d lv)) (h : n < sz) : (cntL sz pre)[n]? = some (((pre.filter fun p => p.1.2 == n).length : Nat) : Int) := by
  unfold cntL
  rw [List.getElem?_map, List.getElem?_range h]
  rfl
theorem cntL_snoc {d : Dm} {lv : Int} {sz : Nat} (pre : List (PN d lv)) (p : PN d lv) (h : p.1.2 < sz) : cntL sz (pre ++ [p]) = (cntL sz pre).set p.1.2 ((((pre.filter fun q => q.1.2 == p.1.2).length + 1 : Nat)) : Int) := by
  apply List.ext_getElem?
  intro n
  by_cases hn : n < sz
  · rw [cntL_at _ hn, List.getElem?_set]
    by_cases e : p.1.2 = n
    · rw [if_pos e, if_pos (by rw [cntL_len, e]; exact hn), ← e]
      simp [List.filter_append]
    · rw [if_neg e, cntL_at _ hn]
      simp [List.filter_append, e]
  · rw [List.getElem?_eq_none (by rw [cntL_len]; omega), List.getElem?_eq_none (by rw [List.length_set, cntL_len]; omega)]
theorem cntL_pcs (d : Dm) (lv : Int) (L : List Int) : ∀ k, k ≤ 24 → k ≤ L.length → ∀ n : Nat, ((pcs d lv L k).filter fun p => p.1.2 == n).length = d.cnt lv (L.take k) n
  | 0, _, _, n => by simp [pcs, Dm.cnt]
  | k + 1, hk, hl, n => by
    have ih := cntL_pcs d lv L k (by omega) (by omega) n
    have hx : L[k]? = some (L.getD k 0) := by rw [List.getD_eq_getElem?_getD, List.getElem?_eq_getElem (by omega)]; rfl
    have ht : L.take (k + 1) = L.take k ++ [L.getD k 0] := by rw [List.take_add_one, hx]; rfl
    unfold Dm.cnt at ih ⊢
    rw [ht, List.filter_append, List.length_append, ← ih]
    by_cases h : 0 ≤ d.of lv (L.getD k 0)
    · rw [pcs_yes (by omega) h, List.filter_append, List.length_append]
      congr 1
      by_cases e : d.of lv (L.getD k 0) = (n : Int)
      · have e2 : (d.of lv (L.getD k 0)).toNat = n := by omega
        rw [List.filter_cons, List.filter_cons, if_pos (by simpa using e2), if_pos (decide_eq_true e)]
        rfl
      · have e2 : (d.of lv (L.getD k 0)).toNat ≠ n := by omega
        rw [List.filter_cons, List.filter_cons, if_neg (by simpa using e2), if_neg (by simpa using e)]
        rfl
    · have e : d.of lv (L.getD k 0) ≠ (n : Int) := by omega
      rw [pcs_no h, List.filter_cons, if_neg (by simpa using e)]
      rfl
def Dm.holdsI (d : Dm) (lv : Int) (L : List Int) : List Int := (d.holds lv L).map fun n : Nat => (n : Int)
theorem cntL_all (d : Dm) (lv : Int) (L : List Int) (sz : Nat) (h : d.size lv = sz) : cntL sz (pcsA d lv L) = d.holdsI lv L := by
  unfold cntL Dm.holdsI Dm.holds
  rw [List.map_map, show (d.size lv).toNat = sz by omega]
  apply List.map_congr_left
  intro n _
  show (((List.filter _ _).length : Nat) : Int) = ((d.cnt lv (Dm.cap L) n : Nat) : Int)
  congr 1
  have hc : (Dm.cap L).length ≤ 24 := by
    unfold Dm.cap
    split
    · assumption
    · simp
  have := cntL_pcs d lv (Dm.cap L) (Dm.cap L).length hc (Nat.le_refl _) n
  rw [List.take_length] at this
  exact this
theorem cntL_nil {d : Dm} {lv : Int} (sz : Nat) : cntL (d := d) (lv := lv) sz [] = List.replicate sz 0 := by
  unfold cntL
  apply List.ext_getElem <;> simp
theorem made_z (n : Nat) : madeCells #[Value.int .i64 0] n = ((List.replicate n (0 : Int)).map iv).toArray := by
  unfold madeCells
  apply Array.ext'
  simp [Nat.mod_one]
  apply List.ext_getElem <;> simp [iv]

set_option maxRecDepth 100000 in
set_option maxHeartbeats 4000000 in
theorem holds_any {B : Nat} (h : Hd) (d : Dm) (lv : Int) (L : List Int) (A : Option Addr) (np c : Nat) (w : World) (hm : DomM w B h d) (hL : Rds w B A (L.map iv)) (hnp : np = L.length) (hnl : np ≤ 140737488355328) :
    Calls Try.prog 8 #[h.val, .int .i64 lv, .slice A np c] w fun e w' => ∃ v, e = .returned v ∧ OwnZ w' w.heap.size v (d.holdsI lv L) ∧ Below w.heap.size w w' := by
  refine (callsIn_wide (n := 5)).1 ?_
  have hro : Fence.wide.round = none := rfl
  obtain ⟨sz, hsz⟩ : ∃ sz : Nat, d.size lv = sz := ⟨(d.size lv).toNat, by have := (Dm.size_ge (d := d) lv).1; omega⟩
  have hsz64 : sz ≤ 64 := by have := (Dm.size_ge (d := d) lv).2; omega
  obtain ⟨W1, hW1⟩ : ∃ W1, W1 = w.alloc (.cells h.cells.toArray 25) := ⟨_, rfl⟩
  have s1 : W1.heap.size = w.heap.size + 1 := by rw [hW1]; simp
  have hB1 : Below w.heap.size w W1 := by rw [hW1]; exact (Below.refl _ _).alloc (Nat.le_refl _) _
  have hR1 : Hid (Blk W1 w.heap.size h.cells 25) := by show Blk _ _ _ _; rw [hW1]; exact Blk.new _ _ _
  have CS := Lib.hid (dsize_any h d lv W1 (hm.below hB1))
  rw [hsz] at CS
  have hdd := Lib.hid size_dom
  have hun : Hid (Try.prog.underlying 25 = _) := Try.underlying25
  have hR2 := hR1
  have hW1' := Lib.hid hW1
  have hfin := Lib.hid (cntL_all d lv L sz hsz)
  have hle := hm.le
  have hm' := Lib.hid hm
  have hL' := Lib.hid hL
  unfold Hd.cells at hR2 hW1'
  unfold Hd.val at CS
  clear hW1 hm hL
  refine callsIn_of_wp_marks Try.func8 rfl trivial ?_ hro
  unfold Hd.val
  simp only [Try.ntmps8, List.size_toArray, List.length_cons, List.length_nil, Nat.reduceAdd, Nat.reduceSub, Array.replicate_succ, Array.replicate_zero, List.push_toArray, List.append_toArray, List.nil_append, List.cons_append]
  gi_wp2_with fail
  generalize hg : w.alloc _ = Wg
  have hgW : W1 = Wg := by rw [← hg, hW1'.out]
  clear hg hW1'
  subst hgW
  refine ⟨trivial, (callsIn_wide.2 CS.out).mono ?_⟩
  rintro e w2 ⟨rfl, hb2⟩
  have hB2 : Below w.heap.size w w2 := hB1.trans (hb2.mono hB1.size)
  have s2 : w.heap.size + 1 ≤ w2.heap.size := by rw [← s1]; exact hb2.size
  obtain ⟨g, hgd⟩ : ∃ g, g = w2.heap.size := ⟨_, rfl⟩
  obtain ⟨W3, hW3⟩ : ∃ W3, W3 = w2.alloc (.cells (madeCells #[.int .i64 0] sz) 3) := ⟨_, rfl⟩
  have hmk := run_make_row' (P := Try.prog) 22 3 (.int .i64 0) 8 Try.underlying22 infoZ rfl .i64 .i64 sz (by omega) (by omega) w2
  rw [← hW3] at hmk
  rw [← hgd] at hmk
  obtain ⟨W4, hW4⟩ : ∃ W4, W4 = W3.alloc (.cells #[.slice (some ⟨g, 0, none⟩) sz sz] 22) := ⟨_, rfl⟩
  obtain ⟨W5, hW5⟩ : ∃ W5, W5 = ((W4.alloc (.cells h.cells.toArray 25)).alloc (.cells #[.int .i64 lv] 3)).alloc (.cells #[.slice A np c] 22) := ⟨_, rfl⟩
  have s3 : W3.heap.size = g + 1 := by rw [hW3, World.size_alloc, hgd]
  have s4 : W4.heap.size = g + 1 + 1 := by rw [hW4, World.size_alloc, s3]
  have s5 : W5.heap.size = g + 5 := by rw [hW5]; simp [s4]
  have hB3 : Below w.heap.size w W3 := by rw [hW3]; exact hB2.alloc hB2.size _
  have hB4 : Below w.heap.size w W4 := by rw [hW4]; exact hB3.alloc hB3.size _
  have hB5 : Below w.heap.size w W5 := by rw [hW5]; exact ((hB4.alloc hB4.size _).alloc (by simp; have := hB4.size; omega) _).alloc (by simp; have := hB4.size; omega) _
  have kg3 : Blk W3 g ((cntL (d := d) (lv := lv) sz []).map iv) 3 := by rw [hW3, hgd, made_z, cntL_nil]; exact Blk.new _ _ _
  have kg5 : Blk W5 g ((cntL (d := d) (lv := lv) sz []).map iv) 3 := by rw [hW5]; refine Blk.alloc (Blk.alloc (Blk.alloc ?_ _) _) _; rw [hW4]; exact kg3.alloc _
  have bX : Boxed W5 (g + 1) 22 (.slice (some ⟨g, 0, none⟩) sz sz) := by
    rw [hW5]
    refine Boxed.alloc (Boxed.alloc (Boxed.alloc ?_ _) _) _
    rw [hW4]
    have := Boxed.new W3 22 (.slice (some ⟨g, 0, none⟩) sz sz)
    rwa [s3] at this
  have kd5 : Blk W5 (g + 1 + 1) h.cells 25 := by rw [hW5]; exact ((Blk.new W4 _ _).alloc _ |>.alloc _).at (by rw [s4])
  have kl5 : Blk W5 (g + 1 + 1 + 1) [.int .i64 lv] 3 := by rw [hW5]; exact ((Blk.new _ [_] _).alloc _).at (by rw [World.size_alloc, s4])
  have kp5 : Blk W5 (g + 1 + 1 + 1 + 1) [.slice A np c] 22 := by rw [hW5]; exact (Blk.new _ [_] _).at (by rw [World.size_alloc, World.size_alloc, s4])
  have hR4 : Hid (Blk W4 w.heap.size [.slice h.a1 h.n1 h.c1, .slice h.a2 h.n2 h.c2, .slice h.a3 h.n3 h.c3, .int .i64 h.o] 25) := by
    show Blk _ _ _ _
    rw [hW4, hW3]
    exact ((hR2.out.below hb2 hR2.out.lt).alloc _).alloc _
  have hS := pieces_stops 4 (g + 1 + 1 + 1 + 1) (g + 1 + 1) (g + 1 + 1 + 1) h d lv L A np c W5 (hm'.out.below hB5) (hL'.out.below (hB5.mono hle)) hnp hnl kd5 kl5 kp5
  have HMk := pieces_v h lv A np c W4
  rw [← hW5, s4] at HMk
  have HM := Lib.hid HMk
  have hW4' := Lib.hid hW4
  unfold Hd.val at HM
  have hgd' := Lib.hid hgd
  have hnp' := Lib.hid hnp
  have hsz' := Lib.hid hsz
  have h5 := Lib.hid s5
  have h4 := Lib.hid s4
  have h1 := Lib.hid s1
  have hs2' := Lib.hid s2
  clear hW3 hW4 hW5 HMk kd5 kl5 kp5 kg3 hb2 hgd hnp hsz s5 s4 s1 s2
  have hR4l : Hid (Blk (W3.alloc (.cells #[.slice (some ⟨g, 0, none⟩) sz sz] 22)) w.heap.size [.slice h.a1 h.n1 h.c1, .slice h.a2 h.n2 h.c2, .slice h.a3 h.n3 h.c3, .int .i64 h.o] 25) := by
    show Blk _ _ _ _
    rw [← hW4'.out]
    exact hR4.out
  gi_wp2_with (refine wpListIn_blkD rfl 25 _ rfl 0 rfl hR4l.out [.slice h.a1 h.n1 h.c1, .slice h.a2 h.n2 h.c2, .slice h.a3 h.n3 h.c3, .int .i64 h.o] (take_all0 _) _ hun.out rfl hdd.out ?_)
  clear hR4l
  generalize hg : W3.alloc _ = Wg
  have hgW : W4 = Wg := by rw [← hg, hW4'.out]
  clear hg hW4'
  subst hgW
  refine ⟨trivial, (callsIn_wide.2 HM.out).mono ?_⟩
  rintro e w' ⟨rfl, rfl⟩
  gi_wp2_with fail
  have g0 : w.heap.size < g := by have := hs2'.out; have := hgd'.out; omega
  have e5 := h5.out
  have hgB : B ≤ g := by omega
  refine wpIn_rangeFunc_ownG hro (by omega) (gf := 30) (lb := #[.pointer (some ⟨g + 1 + 1 + 1 + 1, 0, none⟩), .pointer (some ⟨g + 1 + 1, 0, none⟩), .pointer (some ⟨g + 1 + 1 + 1, 0, none⟩)]) rfl trivial (enters_of Try.func30 (by kernel_rfl) rfl)
    hS keepI_t (keepI_b (by omega) (by simp)) (Below.refl _ _) (fun _ => rfl)
    (fun (pre : List (PN d lv)) W => (Blk W g ((cntL sz pre).map iv) 3 ∧ Boxed W (g + 1) 22 (.slice (some ⟨g, 0, none⟩) sz sz)) ∧ Below w.heap.size w' W)
    (fun _ _ _ => False)
    (OwnFrom.and (Own.from (fun s X Y row hs hg hr => ⟨(grownBy_keeps_cells hg hr hs.1 rfl).trans hs.1, blk_keptD hs.2 hg hr⟩) _) (ownFrom_below (by omega) (by omega)))
    (fun _ _ _ _ _ hs _ _ => hs)
    ⟨⟨kg5, bX⟩, Below.refl _ _⟩
    (fun x => { tmps := #[.agg #[.slice h.a1 h.n1 h.c1, .slice h.a2 h.n2 h.c2, .slice h.a3 h.n3 h.c3, .int .i64 h.o], .int .i64 lv, .slice A np c, .pointer (some ⟨w.heap.size, 0, none⟩), undef, undef, .slice none 0 0, .pointer (some ⟨g + 1, 0, none⟩), undef, .int .i64 (x.1.2 : Int), .agg #[.slice h.a1 h.n1 h.c1, .slice h.a2 h.n2 h.c2, .slice h.a3 h.n3 h.c3, .int .i64 h.o], .int .i64 lv, .int .i64 sz, .slice (some ⟨g, 0, none⟩) sz sz, .agg #[.slice h.a1 h.n1 h.c1, .slice h.a2 h.n2 h.c2, .slice h.a3 h.n3 h.c3, .int .i64 h.o], .int .i64 lv, .slice A np c, .func (.func 30) #[] #[.pointer (some ⟨g + 1 + 1 + 1 + 1, 0, none⟩), .pointer (some ⟨g + 1 + 1, 0, none⟩), .pointer (some ⟨g + 1 + 1 + 1, 0, none⟩)], .int .i64 (x.1.1 : Int), .int .i64 (x.1.2 : Int), undef, undef, undef, undef, undef, undef, undef], defers := [] }) ?assign ?body ?done ?stop
  case assign =>
    intro l x W K hK
    gi_wp2
    exact hK
  case body =>
    rintro l pre x W ⟨⟨hk, hv⟩, hB⟩ hlt
    have hc := hv.cell
    have hxs : x.1.2 < sz := by have := x.2.2; have := hsz'.out; omega
    have hsn := Lib.hid (cntL_snoc pre x hxs)
    have hat := cntL_at pre hxs
    have hcl : (pre.filter fun p => p.1.2 == x.1.2).length ≤ pre.length := List.length_filter_le _ _
    generalize (pre.filter fun p => p.1.2 == x.1.2).length = q at *
    have hc2 : W.cell? ⟨g, x.1.2, none⟩ = some (.int .i64 (q : Int)) := hk.cell (by rw [List.getElem?_map, hat]; rfl)
    have hf2 : W.frozen? ⟨g, x.1.2, none⟩ = false := blk_frozenD _ hk
    have hk2 := Lib.hid (blk_setD x.1.2 (.int .i64 ((q : Int) + 1)) hk)
    have hset : Hid (((cntL sz pre).map iv).set x.1.2 (.int .i64 ((q : Int) + 1)) = (cntL sz (pre ++ [x])).map iv) := by
      show _ = _
      rw [hsn.out, List.map_set]
      rfl
    have hI := Lib.hid (keepI_set2 (bs := []) (v' := .int .i64 ((q : Int) + 1)) (n := x.1.2) hk hgB (by simp))
    obtain ⟨n, hn⟩ : ∃ n, n = x.1.2 := ⟨_, rfl⟩
    rw [← hn] at hc2 hf2 hk2 hset hI hxs
    have t : (n : Int) < (sz : Int) := by omega
    have t0 : 0 ≤ (n : Int) := by omega
    have hw1 : IntKind.i64.wrap ((q : Int) + 1) = (q : Int) + 1 := by rw [IntKind.wrap_i64]; omega
    rw [← hn]
    clear hat hsn hcl hn
    gi_wp2_with fail
    have hbs : Below w.heap.size W (W.setCell ⟨g, n, none⟩ (.int .i64 ((q : Int) + 1))) := (Below.refl w.heap.size W).setCell (p := ⟨g, n, none⟩) (by show w.heap.size ≤ g; omega) _
    exact ⟨(KeepsOthers.setCell W _ _).from _, hI.out, ⟨by rw [← hset.out]; exact hk2.out, (Below.heap_setCell _ _ _ _ (by show g + 1 ≠ g; omega)).trans hv⟩, hB.trans hbs⟩
  case done =>
    rintro D ys W hD rfl ⟨⟨hk, hv⟩, hB⟩ hK
    rw [hfin.out] at hk
    have hc := hv.cell
    have hdl : (d.holdsI lv L).length = sz := by rw [← hfin.out, cntL_len]
    gi_wp2
    refine ⟨by simp, .inl ⟨_, _, rfl, run_takeDeferred hK, ?_⟩⟩
    have hkD : Blk (W.putObj D (.deferred none)) g ((d.holdsI lv L).map iv) 3 := (World.putObj_heap_other (by omega)).trans hk
    refine ⟨_, results_tmp rfl _ _ _, _, rfl, ⟨by simp, .inr ⟨g, sz, ((d.holdsI lv L).map iv).toArray, ?_, by omega, hkD, by omega, by unfold maxLen; omega, by simp [hdl], by simp [hdl]; exact List.take_of_length_le (by rw [List.length_map, hdl]; exact Nat.le_refl _)⟩⟩, (hB5.trans hB).trans (belowK_b (w := w) (Nat.le_refl _) W D _ _ (by omega) hK rfl rfl)⟩
    rw [hdl]
    rfl
  case stop =>
    rintro D c pre W _ _ h _
    exact h.elim
end Go.Proofs.Ytelcaddgkjkegaa
