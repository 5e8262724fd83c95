/-
  Contracts of stage 3: CheckMany's closure, which climbs from several elements to the root. Contracts of stage 3: CheckMany's closure, a step into both parts. Contracts of stage 3: CheckMany.
-/
import Derived.Test.YtlgokfgiemaklaaDoorNck
import Derived.Test.YtlgokfgiemaklaaDoorBmn
import Derived.Test.YtlgokfgiemaklaaDoorRws
import Derived.Deep.CutRange
namespace Go.Proofs.YtlgokfgiemaklaaDoor
set_option linter.unusedVariables false
set_option linter.unusedSimpArgs false
open Go.RowKit

/-- The root that a path and several elements lead to, and the place in the path behind it. -/
def wlk (path : List (List UInt8)) (o n : Nat) (ps : List Int) (F : List (List UInt8)) (j : Nat) : List UInt8 × Nat :=
  if ps = [] then (nx path j, j + 1)
  else if h : n ≤ 1 then (F.getD 0 z16, j)
  else (nd (wlk path o (Mk.ksz n) (ps.take (bel ps ((o + Mk.ksz n : Nat) : Int))) (F.take (bel ps ((o + Mk.ksz n : Nat) : Int))) j).1
      (wlk path (o + Mk.ksz n) (n - Mk.ksz n) (ps.drop (bel ps ((o + Mk.ksz n : Nat) : Int))) (F.drop (bel ps ((o + Mk.ksz n : Nat) : Int))) (wlk path o (Mk.ksz n) (ps.take (bel ps ((o + Mk.ksz n : Nat) : Int))) (F.take (bel ps ((o + Mk.ksz n : Nat) : Int))) j).2).1,
    (wlk path (o + Mk.ksz n) (n - Mk.ksz n) (ps.drop (bel ps ((o + Mk.ksz n : Nat) : Int))) (F.drop (bel ps ((o + Mk.ksz n : Nat) : Int))) (wlk path o (Mk.ksz n) (ps.take (bel ps ((o + Mk.ksz n : Nat) : Int))) (F.take (bel ps ((o + Mk.ksz n : Nat) : Int))) j).2).2)
termination_by n
decreasing_by
  all_goals
    have h1 := Mk.ksz_lt (show 2 ≤ n by omega)
    have h2 := Mk.ksz_pos n
    omega
theorem wlk_nil (path : List (List UInt8)) (o n : Nat) (F : List (List UInt8)) (j : Nat) : wlk path o n [] F j = (nx path j, j + 1) := by rw [wlk, if_pos rfl]
theorem wlk_one (path : List (List UInt8)) (o : Nat) {n : Nat} {ps : List Int} (F : List (List UInt8)) (j : Nat) (hp : ps ≠ []) (h : n ≤ 1) : wlk path o n ps F j = (F.getD 0 z16, j) := by rw [wlk, if_neg hp, dif_pos h]
theorem wlk_two (path : List (List UInt8)) (o : Nat) {n k b : Nat} {ps : List Int} (F : List (List UInt8)) (j : Nat) (hp : ps ≠ []) (h : 2 ≤ n) (hk : k = Mk.ksz n) (hb : b = bel ps ((o + k : Nat) : Int)) :
    wlk path o n ps F j = (nd (wlk path o k (ps.take b) (F.take b) j).1 (wlk path (o + k) (n - k) (ps.drop b) (F.drop b) (wlk path o k (ps.take b) (F.take b) j).2).1, (wlk path (o + k) (n - k) (ps.drop b) (F.drop b) (wlk path o k (ps.take b) (F.take b) j).2).2) := by
  subst hb hk
  rw [wlk, if_neg hp, dif_neg (by omega)]
theorem wlk_le (path : List (List UInt8)) (hd : D16 path) (N : Nat) : ∀ (o n : Nat) (ps : List Int) (F : List (List UInt8)) (j : Nat), n ≤ N → 1 ≤ n → D16 F → (wlk path o n ps F j).2 ≤ j + n ∧ (wlk path o n ps F j).1.length = 16 := by
  induction N with
  | zero => intro o n ps F j h h1; omega
  | succ N ih =>
    intro o n ps F j h h1 hF
    by_cases hp : ps = []
    · subst hp; rw [wlk_nil]; exact ⟨by simp only; omega, nx_len hd j⟩
    · by_cases h2 : 2 ≤ n
      · have a := Mk.ksz_lt h2
        have b := Mk.ksz_pos n
        rw [wlk_two path o F j hp h2 rfl rfl]
        generalize bel ps ((o + Mk.ksz n : Nat) : Int) = q
        have i1 := ih o (Mk.ksz n) (ps.take q) (F.take q) j (by omega) (by omega) (hF.take q)
        have i2 := ih (o + Mk.ksz n) (n - Mk.ksz n) (ps.drop q) (F.drop q) (wlk path o (Mk.ksz n) (ps.take q) (F.take q) j).2 (by omega) (by omega) (hF.drop q)
        exact ⟨by simp only; omega, nd_len _ _⟩
      · rw [wlk_one path o F j hp (by omega)]
        refine ⟨by simp only; omega, ?_⟩
        simp only
        rw [List.getD_eq_getElem?_getD]
        cases hq : F[0]? with
        | none => rfl
        | some d => exact hF d (List.mem_of_getElem? hq)

/-- What the closure is asked. -/
def WlkC (B0 lb rb nb pb tb : Nat) (root : List UInt8) (path : List (List UInt8)) (A : Option Addr) (c : Nat) (w : World) : Prop := Ckx w B0 lb rb nb pb tb (cl2 48 nb rb) 82 root path A c

set_option maxRecDepth 100000 in
set_option maxHeartbeats 4000000 in
theorem wlk_up_nil (B0 lb rb nb pb tb : Nat) (root : List UInt8) (path : List (List UInt8)) (A : Option Addr) (c : Nat) (hd : D16 path) (x y z : Value) (Ap : Option Addr) (cp j : Nat) (w : World) (hj : j ≤ 1000000000000000)
    (hC : WlkC B0 lb rb nb pb tb root path A c w) (ht : Blk w tb [.int .i64 j] 3) :
    Calls Tryd.prog 48 #[x, y, .slice Ap 0 cp, z, .pointer (some ⟨nb, 0, none⟩), .pointer (some ⟨rb, 0, none⟩)] w fun e w' => e = .returned (av (nx path j)) ∧ Blk w' tb [.int .i64 ((j + 1 : Nat) : Int)] 3 ∧ Gr tb w w' := by
  have hCa : Hid (∀ o, WlkC B0 lb rb nb pb tb root path A c (w.alloc o)) := fun o => Ckx.gr hC (Gr.of ((Below.refl _ _).alloc (Nat.le_refl _) o))
  have hta := Lib.hid (fun o => ht.alloc o)
  have hR1 : Hid (Blk (w.alloc (.cells (bz 16).toArray 31)) w.heap.size (bz 16) 31) := Blk.new _ _ _
  have hG1 : Hid (∀ o, Gr tb w (w.alloc o)) := fun o => Gr.of ((Below.refl _ _).alloc (Nat.le_refl _) o)
  have htl := Lib.hid ht.lt
  have cn : ∀ o, (w.alloc o).cell? ⟨nb, 0, none⟩ = some (cl2 72 tb pb) := fun o => Blk.cell (Ckx.nxt (hCa.out o)) rfl
  unfold cl2 at cn
  have HX := Lib.hid (fun W (hC : WlkC B0 lb rb nb pb tb root path A c W) (ht : Blk W tb [.int .i64 j] 3) => next_any path A c j tb pb B0 W hd (Ckx.rds hC) (Ckx.ne hC).2.2.2.2.2.1 (Ckx.ne hC).2.2.2.1.symm hj ht (Ckx.pth hC))
  have hxl := nx_len hd j
  generalize nx path j = X at HX hxl ⊢
  have hXl : (X.map bv).length = 16 := by rw [List.length_map, hxl]
  have hXs := Lib.hid (size_dig16 _ hXl)
  have hXo := av_one X
  unfold av at HX ⊢
  clear hC ht hd hj hxl
  go_enter Tryd.func48, Tryd.ntmps48
  go_wp2_with fail
  refine (HX.out _ (hCa.out _) (hta.out _)).mono ?_
  rintro e w2 ⟨rfl, ht2, hg2⟩
  have hR2 := Lib.hid (hR1.out.gr hg2 (Nat.ne_of_gt htl.out))
  have hG2 : Gr tb w w2 := (hG1.out _).trans hg2
  go_wp2_with (refine wpList_row_store rfl 31 _ _ rfl (X.map bv) rfl rfl hR2.out hXs.out (by rw [hXl]; rfl) hXo ?_; intro w3 hW3 ho3)
  exact bodyPost_ret (ret_blk rfl _ w3 (g := w.heap.size) rfl hW3.out (.array 16 5) arr_dig rfl hXs.out) rfl ⟨rfl, end_gr ht2 ho3 hG2 (Nat.le_refl _) htl.out⟩

set_option maxRecDepth 100000 in
set_option maxHeartbeats 4000000 in
theorem wlk_up_one (B0 lb rb nb pb tb : Nat) (root : List UInt8) (path : List (List UInt8)) (A : Option Addr) (c : Nat) (o m np : Nat) (hm : m = o + 1) (h47 : m ≤ 140737488355328) (hnp : 0 < np) (F : List (List UInt8)) (ad : Addr) (nf cf : Nat) (hnf : nf = F.length) (hF : D16 F) (hf1 : 1 ≤ F.length) (Ap : Option Addr) (cp j : Nat) (w : World)
    (hB0 : B0 ≤ w.heap.size) (hr : Rds w B0 (some ad) ((flat F).map bv)) (htl : tb < w.heap.size) (ht : Blk w tb [.int .i64 j] 3) :
    Calls Tryd.prog 48 #[.int .i64 o, .int .i64 m, .slice Ap np cp, .slice (some ad) nf cf, .pointer (some ⟨nb, 0, none⟩), .pointer (some ⟨rb, 0, none⟩)] w fun e w' => e = .returned (av (F.getD 0 z16)) ∧ Blk w' tb [.int .i64 j] 3 ∧ Gr tb w w' := by
  obtain ⟨d, hdj⟩ : ∃ d, F[0]? = some d := ⟨_, List.getElem?_eq_getElem (by omega)⟩
  have hd0 : F.getD 0 z16 = d := by rw [List.getD_eq_getElem?_getD, hdj]; rfl
  rw [hd0]
  have hdl : (d.map bv).length = 16 := by rw [List.length_map]; exact hF d (List.mem_of_getElem? hdj)
  have hDs := Lib.hid (size_dig16 _ hdl)
  have hDo := av_one d
  have hcell : Hid (∀ (o : Obj) (j : Nat) (v : Value), (d.map bv)[j]? = some v → (w.alloc o).cell? (ad.add j) = some v) := fun o j v hv => by
    have h2 : Dg (w.alloc o) (some ad) F := (hr.alloc hB0 o).more (by simp; omega)
    obtain ⟨ad', he, _, _, hc⟩ := h2.at hF hdj
    injection he with he
    subst he
    have := hc j v hv
    rwa [show (ad.add (0 * 16)).add j = ad.add j by unfold Addr.add; split <;> simp_all] at this
  have t0 : ((np : Int) == 0) = false := by simp; omega
  have t1 : (m : Int) - (o : Int) = 1 := by omega
  have t2 : (0 : Int) < (nf : Int) := by omega
  have hta := Lib.hid (fun o => ht.alloc o)
  have hR1 : Hid (Blk (w.alloc (.cells (bz 16).toArray 31)) w.heap.size (bz 16) 31) := Blk.new _ _ _
  have hG1 : Hid (∀ o, Gr tb w (w.alloc o)) := fun o => Gr.of ((Below.refl _ _).alloc (Nat.le_refl _) o)
  have htl' := Lib.hid htl
  unfold av
  clear hF hf1 hr hnf hdj hd0 hm hB0 htl ht
  go_enter Tryd.func48, Tryd.ntmps48
  go_wp2_with (first | (refine wpList_load_arr rfl 31 _ rfl ad rfl (d.map bv) 16 5 (hcell.out _) arr_dig hDs.out ?_) | (refine wpList_row_store rfl 31 _ _ rfl (d.map bv) rfl rfl hR1.out hDs.out (by rw [hdl]; rfl) hDo ?_; intro w4 hW4 ho4))
  exact bodyPost_ret (ret_blk rfl _ w4 (g := w.heap.size) rfl hW4.out (.array 16 5) arr_dig rfl hDs.out) rfl ⟨rfl, end_gr (hta.out _) ho4 (hG1.out _) (Nat.le_refl _) htl'.out⟩
end Go.Proofs.YtlgokfgiemaklaaDoor

namespace Go.Proofs.YtlgokfgiemaklaaDoor
set_option linter.unusedVariables false
set_option linter.unusedSimpArgs false
open Go.RowKit

theorem end_grw {tb g : Nat} {w W2 W3 : World} (hge : w.heap.size ≤ g) (hg : Gr tb w W2) (ho3 : Only g W2 W3) : Gr tb w W3 :=
  ⟨ho3.os.trans hg.os, ho3.tape.trans hg.tape, ho3.output.trans hg.output, by rw [ho3.size]; exact hg.size, fun i hi hne => (ho3.block i (by omega)).trans (hg.block i hi hne)⟩

set_option maxRecDepth 100000 in
set_option maxHeartbeats 4000000 in
theorem wlk_up_two (B0 lb rb nb pb tb : Nat) (root : List UInt8) (path : List (List UInt8)) (A : Option Addr) (c : Nat) (o n m k md b np cp cf j j1 j2 : Nat) (pd ad : Addr) (D1 D2 : List UInt8) (w : World) (h2 : 2 ≤ n) (hm : m = o + n) (h47 : m ≤ 140737488355328) (hk : k = Mk.ksz n) (hmd : md = o + k) (hnp : 0 < np) (hb : b ≤ np) (hcp : np ≤ cp) (hcf : np ≤ cf) (hl1 : D1.length = 16) (hl2 : D2.length = 16)
    (hC : WlkC B0 lb rb nb pb tb root path A c w) (ht : Blk w tb [.int .i64 j] 3)
    (HS : Hid (∀ W, Gr tb w W → Calls Tryd.prog 43 #[.slice (some pd) np cp, .int .i64 md] W (SrEnd b W)))
    (I1 : Hid (∀ W, WlkC B0 lb rb nb pb tb root path A c W → Gr tb w W → Blk W tb [.int .i64 j] 3 →
      Calls Tryd.prog 48 #[.int .i64 o, .int .i64 md, .slice (some pd) b cp, .slice (some ad) b cf, .pointer (some ⟨nb, 0, none⟩), .pointer (some ⟨rb, 0, none⟩)] W fun e w' => e = .returned (av D1) ∧ Blk w' tb [.int .i64 j1] 3 ∧ Gr tb W w'))
    (I2 : ∀ A2 A3, (cp = b ∨ A2 = some (pd.add b)) → (cf = b ∨ A3 = some (ad.add (b * 16))) → Hid (∀ W, WlkC B0 lb rb nb pb tb root path A c W → Gr tb w W → Blk W tb [.int .i64 j1] 3 →
      Calls Tryd.prog 48 #[.int .i64 md, .int .i64 m, .slice A2 (np - b) (cp - b), .slice A3 (np - b) (cf - b), .pointer (some ⟨nb, 0, none⟩), .pointer (some ⟨rb, 0, none⟩)] W fun e w' => e = .returned (av D2) ∧ Blk w' tb [.int .i64 j2] 3 ∧ Gr tb W w')) :
    Calls Tryd.prog 48 #[.int .i64 o, .int .i64 m, .slice (some pd) np cp, .slice (some ad) np cf, .pointer (some ⟨nb, 0, none⟩), .pointer (some ⟨rb, 0, none⟩)] w fun e w' => e = .returned (av (nd D1 D2)) ∧ Blk w' tb [.int .i64 j2] 3 ∧ Gr tb w w' := by
  have t0 : ((np : Int) == 0) = false := by simp; omega
  have t1 : (m : Int) - (o : Int) = (n : Int) := by omega
  have t2 : ((n : Int) == 1) = false := by simp; omega
  have e1 : (o : Int) + (k : Int) = (md : Int) := by omega
  have HF := Lib.hid (fun W => firstSize_any n W h2 (by omega))
  rw [← hk] at HF
  have htl := Lib.hid ht.lt
  obtain ⟨W1, hW1⟩ : ∃ W1, W1 = w.alloc (.cells (bz 16).toArray 31) := ⟨_, rfl⟩
  have hG1 : Hid (Gr tb w W1) := by show Gr _ _ _; rw [hW1]; exact Gr.of ((Below.refl _ _).alloc (Nat.le_refl _) _)
  have hR1 : Hid (Blk W1 w.heap.size (bz 16) 31) := by show Blk _ _ _ _; rw [hW1]; exact Blk.new _ _ _
  have ht1 : Hid (Blk W1 tb [.int .i64 j] 3) := by show Blk _ _ _ _; rw [hW1]; exact ht.alloc _
  have hCG : Hid (∀ W, Gr tb w W → WlkC B0 lb rb nb pb tb root path A c W) := fun W h => Ckx.gr hC h
  have hW1' := Lib.hid hW1
  have HN := Lib.hid (fun W hT => node_any D1 D2 W hl1 hl2 hT)
  have hnl := nd_len D1 D2
  generalize nd D1 D2 = E at HN hnl ⊢
  have h1l : (D1.map bv).length = 16 := by rw [List.length_map, hl1]
  have h1s := Lib.hid (size_dig16 _ h1l)
  have h1o := av_one D1
  have h2l : (D2.map bv).length = 16 := by rw [List.length_map, hl2]
  have h2s := Lib.hid (size_dig16 _ h2l)
  have h2o := av_one D2
  have hEl : (E.map bv).length = 16 := by rw [List.length_map, hnl]
  have hEs := Lib.hid (size_dig16 _ hEl)
  have hEo := av_one E
  have b1 : ¬ (np : Int) < (b : Int) := by omega
  have b2 : (b : Int) ≤ (cp : Int) := by omega
  have b3 : (b : Int) ≤ (cf : Int) := by omega
  have b4 : (b : Int) ≤ (np : Int) := by omega
  have b5 : ((np - b : Nat) : Int) = (np : Int) - (b : Int) := by omega
  have hbp := Lib.hid hb
  have hcp' := Lib.hid hcp
  have hcf' := Lib.hid hcf
  have hZ : Hid (∀ (W W' : World) (g : Nat) (D : List UInt8), W'.heap.size = W.heap.size → True) := fun _ _ _ _ _ => trivial
  unfold av at I1 I2 HN ⊢
  have hn47 : n ≤ 140737488355328 := by omega
  have hmd47 : md ≤ 140737488355328 := by have := Mk.ksz_lt h2; omega
  clear hk hm hC ht h2 hmd hnp hb hcp hcf hl1 hl2 hnl hW1 hZ
  go_enter Tryd.func48, Tryd.ntmps48
  go_wp2_with fail
  refine (HF.out _).mono ?_
  rintro e w1 ⟨rfl, hw1⟩
  subst hw1
  go_wp2_with fail
  generalize hg : w.alloc _ = Wg
  have hgW : W1 = Wg := by rw [← hg, hW1'.out]; rfl
  clear hg hW1'
  subst hgW
  refine (HS.out _ hG1.out).mono ?_
  rintro e w3 ⟨⟨bb, rfl⟩, hw3⟩
  have hw4 := hw3.symm
  clear hw3
  subst hw4
  go_wp2_with fail
  have hsl : Hid (w.heap.size < W1.heap.size) := (Nat.lt_of_lt_of_le hR1.out.lt (Nat.le_refl _))
  go_cut [14] from 40 to 49 (fun v W => ∃ g, v = .pointer (some ⟨g, 0, none⟩) ∧ w.heap.size < g ∧ Blk W g (D1.map bv) 31 ∧ Blk W tb [.int .i64 j1] 3 ∧ Gr tb W1 W)
  case first J KK hJ hKK =>
    have cr : ∀ x : SOf (fun W => Gr tb W1 W), x.world.cell? ⟨rb, 0, none⟩ = some (cl2 48 nb rb) := fun x => Blk.cell (Ckx.fn (hCG.out _ (hG1.out.trans x.meets))) rfl
    unfold cl2 at cr
    have hdw : Gr tb W1 W1.drew := Gr.of ((Below.refl _ _).drew)
    have hne : Nonempty (SOf (fun W => Gr tb W1 W)) := ⟨⟨_, hdw⟩⟩
    refine wp_region_planH (fun W => Gr tb W1 W) [0, 1, 2, 3, 4, 5, 6, 7, 8] 3 (by kernel_rfl) (by kernel_rfl) (by kernel_rfl) (by kernel_rfl) (by intro c a d v w h; cases d <;> exact h) hdw ?_
    change wpPlanH _ _ _ _ _ _ _ _ _ W1.drew
    iterate 9 (refine wpPlanH_plain rfl (fun K hK => ?_); go_simp; refine hK _ ?_; clear hK K)
    clear hne cr
    have htd := Lib.hid (ht1.out.drew)
    have hwd := Lib.hid (hG1.out.trans hdw)
    have hsz : Hid (w.heap.size < W1.drew.heap.size) := hsl.out
    have hdw2 := Lib.hid hdw
    clear hdw
    generalize W1.drew = Wd at htd hwd hsz hdw2 ⊢
    refine wpAnyH_each (rs := [9, 10]) (by kernel_rfl) (by decide) (fun K hK q hq => ?_)
    simp only [List.mem_cons, List.not_mem_nil, or_false] at hq
    rcases hq with rfl | rfl
    · refine wpOp_listed rfl ?_
      go_wp2_with fail
      refine (I1.out _ (hCG.out _ hwd.out) hwd.out htd.out).mono ?_
      rintro e w4 ⟨rfl, ht4, hg4⟩
      go_wp2_with fail
      refine postH_normal (hK _ _ _ (hdw2.out.trans hg4) ?_)
      clear hK K
      refine wpAnyH_each (rs := [10]) (by kernel_rfl) (by decide) (fun K hK q hq => ?_)
      obtain rfl := List.mem_singleton.1 hq
      refine wpOp_listed rfl ?_
      go_wp2_with fail
      have hg5 : Gr tb w4 (w4.alloc (.cells (bz 16).toArray 31)) := Gr.of ((Below.refl _ _).alloc (Nat.le_refl _) _)
      refine postH_normal (hK _ _ _ ((hdw2.out.trans hg4).trans hg5) ?_)
      clear hK K
      have hN5 := Lib.hid (Blk.new w4 (bz 16) 31)
      refine wpAnyH_each (rs := [11]) (by kernel_rfl) (by decide) (fun K hK q hq => ?_)
      obtain rfl := List.mem_singleton.1 hq
      refine wpOp_listed rfl ?_
      refine wpList_row_store rfl 31 _ _ rfl (D1.map bv) rfl rfl hN5.out h1s.out (by rw [h1l]; rfl) h1o ?_
      intro w6 hW6 ho6
      have hb6 : Below w4.heap.size w4 w6 := ((Below.refl _ _).alloc (Nat.le_refl _) _).trans (ho6.below (Nat.le_refl _))
      have hg6 := (hdw2.out.trans hg4).trans (Gr.of hb6)
      refine wpList_end (postH_normal (hK _ _ _ hg6 ?_))
      clear hK K
      refine wpAnyH_done (by kernel_rfl) ?_ _
      simp only [Act.put, List.setIfInBounds_toArray, List.set_cons_zero, List.set_cons_succ]
      have hle6 : w.heap.size < w4.heap.size := Nat.lt_of_lt_of_le hsz.out hg4.size
      have ht6 := ht4.below hb6 ht4.lt
      show KK _ w6
      refine hKK _ _ (Met.intro (hJ _ _ ?_))
      repeat apply Exists.intro
      refine ⟨⟨w4.heap.size, rfl, hle6, hW6.out, ht6, hg6⟩, ?_⟩
      rfl
    · refine wpOp_listed rfl ?_
      go_wp2_with fail
      have hg5 : Gr tb Wd (Wd.alloc (.cells (bz 16).toArray 31)) := Gr.of ((Below.refl _ _).alloc (Nat.le_refl _) _)
      refine postH_normal (hK _ _ _ (hdw2.out.trans hg5) ?_)
      clear hK K
      have hN5 := Lib.hid (Blk.new Wd (bz 16) 31)
      have ht5 := Lib.hid (htd.out.alloc (.cells (bz 16).toArray 31))
      have hg5d := Lib.hid (hdw2.out.trans hg5)
      have hw5 := Lib.hid (hwd.out.trans hg5)
      have hltd := Lib.hid htd.out.lt
      clear hg5
      obtain ⟨W5, hW5⟩ : ∃ W5, W5 = Wd.alloc (.cells (bz 16).toArray 31) := ⟨_, rfl⟩
      rw [← hW5] at hN5 ht5 hg5d hw5
      generalize hg : Wd.alloc _ = Wg
      have hgW : W5 = Wg := by rw [← hg, hW5]; rfl
      clear hg hW5
      subst hgW
      refine wpAnyH_each (rs := [9]) (by kernel_rfl) (by decide) (fun K hK q hq => ?_)
      obtain rfl := List.mem_singleton.1 hq
      refine wpOp_listed rfl ?_
      go_wp2_with fail
      refine (I1.out _ (hCG.out _ hw5.out) hw5.out ht5.out).mono ?_
      rintro e w4 ⟨rfl, ht4, hg4⟩
      go_wp2_with fail
      refine postH_normal (hK _ _ _ (hg5d.out.trans hg4) ?_)
      clear hK K
      have hN6 := Lib.hid (hN5.out.gr hg4 (Nat.ne_of_gt hltd.out))
      refine wpAnyH_each (rs := [11]) (by kernel_rfl) (by decide) (fun K hK q hq => ?_)
      obtain rfl := List.mem_singleton.1 hq
      refine wpOp_listed rfl ?_
      refine wpList_row_store rfl 31 _ _ rfl (D1.map bv) rfl rfl hN6.out h1s.out (by rw [h1l]; rfl) h1o ?_
      intro w6 hW6 ho6
      have hg6 : Gr tb W1 w6 := by
        refine end_grw ?_ (hg5d.out.trans hg4) ho6
        have h1 := hdw2.out.size
        exact h1
      refine wpList_end (postH_normal (hK _ _ _ hg6 ?_))
      clear hK K
      refine wpAnyH_done (by kernel_rfl) ?_ _
      simp only [Act.put, List.setIfInBounds_toArray, List.set_cons_zero, List.set_cons_succ]
      have hle6 : w.heap.size < Wd.heap.size := hsz.out
      have ht6 := ht4.only ho6 (Nat.ne_of_lt hltd.out)
      show KK _ w6
      refine hKK _ _ (Met.intro (hJ _ _ ?_))
      repeat apply Exists.intro
      refine ⟨⟨Wd.heap.size, rfl, hle6, hW6.out, ht6, hg6⟩, ?_⟩
      rfl
  case rest =>
    obtain ⟨g1, hv1, hg1s, hB1, htc0, hGc0⟩ := hcut
    subst hv1
    have hB1' := Lib.hid hB1
    have htc := Lib.hid htc0
    have hGc := Lib.hid (hG1.out.trans hGc0)
    have hR2 := Lib.hid (hR1.out.gr hGc0 (Nat.ne_of_gt htl.out))
    have hsl2 : Hid (w.heap.size < wc.heap.size) := Nat.lt_of_lt_of_le hsl.out hGc0.size
    have hg1s' := Lib.hid hg1s
    clear hsl
    have hsl := hsl2
    clear hsl2 hB1 htc0 hGc0 hG1 hR1 ht1 I1 hg1s
    go_wp2_with fail
    go_cut [15] from 50 to 59 (fun v W => ∃ g, v = .pointer (some ⟨g, 0, none⟩) ∧ w.heap.size < g ∧ Blk W g (D2.map bv) 31 ∧ Blk W tb [.int .i64 j2] 3 ∧ Gr tb wc W)
    case first J KK hJ hKK =>
      have cr : ∀ x : SOf (fun W => Gr tb wc W), x.world.cell? ⟨rb, 0, none⟩ = some (cl2 48 nb rb) := fun x => Blk.cell (Ckx.fn (hCG.out _ (hGc.out.trans x.meets))) rfl
      unfold cl2 at cr
      have hdw : Gr tb wc wc.drew := Gr.of ((Below.refl _ _).drew)
      have hne : Nonempty (SOf (fun W => Gr tb wc W)) := ⟨⟨_, hdw⟩⟩
      by_cases hcj : cp = b
      · by_cases hcg : cf = b
        · have I3 := I2 (some pd) (some ad) (.inl hcj) (.inl hcg)
          clear I2
          have hcjh := Lib.hid hcj
          have hcgh := Lib.hid hcg
          rw [hcj] at I3 ⊢
          rw [hcg] at I3 ⊢
          simp only [Nat.sub_self] at I3
          clear hcj
          clear hcg
          refine wp_region_planH (fun W => Gr tb wc W) [0, 1, 2, 3, 4, 5, 6, 7, 8] 3 (by kernel_rfl) (by kernel_rfl) (by kernel_rfl) (by kernel_rfl) (by intro c a d v w h; cases d <;> exact h) hdw ?_
          change wpPlanH _ _ _ _ _ _ _ _ _ wc.drew
          iterate 9 (refine wpPlanH_plain rfl (fun K hK => ?_); go_simp; refine hK _ ?_; clear hK K)
          clear hne cr
          have htd := Lib.hid (htc.out.drew)
          have hwd := Lib.hid (hGc.out.trans hdw)
          have hsz : Hid (w.heap.size < wc.drew.heap.size) := hsl.out
          have hdw2 := Lib.hid hdw
          clear hdw
          generalize wc.drew = Wd at htd hwd hsz hdw2 ⊢
          refine wpAnyH_each (rs := [9, 10]) (by kernel_rfl) (by decide) (fun K hK q hq => ?_)
          simp only [List.mem_cons, List.not_mem_nil, or_false] at hq
          rcases hq with rfl | rfl
          · refine wpOp_listed rfl ?_
            go_wp2_with fail
            refine (I3.out _ (hCG.out _ hwd.out) hwd.out htd.out).mono ?_
            rintro e w4 ⟨rfl, ht4, hg4⟩
            go_wp2_with fail
            refine postH_normal (hK _ _ _ (hdw2.out.trans hg4) ?_)
            clear hK K
            refine wpAnyH_each (rs := [10]) (by kernel_rfl) (by decide) (fun K hK q hq => ?_)
            obtain rfl := List.mem_singleton.1 hq
            refine wpOp_listed rfl ?_
            go_wp2_with fail
            have hg5 : Gr tb w4 (w4.alloc (.cells (bz 16).toArray 31)) := Gr.of ((Below.refl _ _).alloc (Nat.le_refl _) _)
            refine postH_normal (hK _ _ _ ((hdw2.out.trans hg4).trans hg5) ?_)
            clear hK K
            have hN5 := Lib.hid (Blk.new w4 (bz 16) 31)
            refine wpAnyH_each (rs := [11]) (by kernel_rfl) (by decide) (fun K hK q hq => ?_)
            obtain rfl := List.mem_singleton.1 hq
            refine wpOp_listed rfl ?_
            refine wpList_row_store rfl 31 _ _ rfl (D2.map bv) rfl rfl hN5.out h2s.out (by rw [h2l]; rfl) h2o ?_
            intro w6 hW6 ho6
            have hb6 : Below w4.heap.size w4 w6 := ((Below.refl _ _).alloc (Nat.le_refl _) _).trans (ho6.below (Nat.le_refl _))
            have hg6 := (hdw2.out.trans hg4).trans (Gr.of hb6)
            refine wpList_end (postH_normal (hK _ _ _ hg6 ?_))
            clear hK K
            refine wpAnyH_done (by kernel_rfl) ?_ _
            simp only [Act.put, List.setIfInBounds_toArray, List.set_cons_zero, List.set_cons_succ]
            have hle6 : w.heap.size < w4.heap.size := Nat.lt_of_lt_of_le hsz.out hg4.size
            have ht6 := ht4.below hb6 ht4.lt
            show KK _ w6
            refine hKK _ _ (Met.intro (hJ _ _ ?_))
            repeat apply Exists.intro
            refine ⟨⟨w4.heap.size, rfl, hle6, hW6.out, ht6, hg6⟩, ?_⟩
            try rw [hcjh.out]
            try rw [hcgh.out]
            rfl
          · refine wpOp_listed rfl ?_
            go_wp2_with fail
            have hg5 : Gr tb Wd (Wd.alloc (.cells (bz 16).toArray 31)) := Gr.of ((Below.refl _ _).alloc (Nat.le_refl _) _)
            refine postH_normal (hK _ _ _ (hdw2.out.trans hg5) ?_)
            clear hK K
            have hN5 := Lib.hid (Blk.new Wd (bz 16) 31)
            have ht5 := Lib.hid (htd.out.alloc (.cells (bz 16).toArray 31))
            have hg5d := Lib.hid (hdw2.out.trans hg5)
            have hw5 := Lib.hid (hwd.out.trans hg5)
            have hltd := Lib.hid htd.out.lt
            clear hg5
            obtain ⟨W5, hW5⟩ : ∃ W5, W5 = Wd.alloc (.cells (bz 16).toArray 31) := ⟨_, rfl⟩
            rw [← hW5] at hN5 ht5 hg5d hw5
            generalize hg : Wd.alloc _ = Wg
            have hgW : W5 = Wg := by rw [← hg, hW5]; rfl
            clear hg hW5
            subst hgW
            refine wpAnyH_each (rs := [9]) (by kernel_rfl) (by decide) (fun K hK q hq => ?_)
            obtain rfl := List.mem_singleton.1 hq
            refine wpOp_listed rfl ?_
            go_wp2_with fail
            refine (I3.out _ (hCG.out _ hw5.out) hw5.out ht5.out).mono ?_
            rintro e w4 ⟨rfl, ht4, hg4⟩
            go_wp2_with fail
            refine postH_normal (hK _ _ _ (hg5d.out.trans hg4) ?_)
            clear hK K
            have hN6 := Lib.hid (hN5.out.gr hg4 (Nat.ne_of_gt hltd.out))
            refine wpAnyH_each (rs := [11]) (by kernel_rfl) (by decide) (fun K hK q hq => ?_)
            obtain rfl := List.mem_singleton.1 hq
            refine wpOp_listed rfl ?_
            refine wpList_row_store rfl 31 _ _ rfl (D2.map bv) rfl rfl hN6.out h2s.out (by rw [h2l]; rfl) h2o ?_
            intro w6 hW6 ho6
            have hg6 : Gr tb wc w6 := by
              refine end_grw ?_ (hg5d.out.trans hg4) ho6
              have h1 := hdw2.out.size
              exact h1
            refine wpList_end (postH_normal (hK _ _ _ hg6 ?_))
            clear hK K
            refine wpAnyH_done (by kernel_rfl) ?_ _
            simp only [Act.put, List.setIfInBounds_toArray, List.set_cons_zero, List.set_cons_succ]
            have hle6 : w.heap.size < Wd.heap.size := hsz.out
            have ht6 := ht4.only ho6 (Nat.ne_of_lt hltd.out)
            show KK _ w6
            refine hKK _ _ (Met.intro (hJ _ _ ?_))
            repeat apply Exists.intro
            refine ⟨⟨Wd.heap.size, rfl, hle6, hW6.out, ht6, hg6⟩, ?_⟩
            try rw [hcjh.out]
            try rw [hcgh.out]
            rfl
        · have I3 := I2 (some pd) (some (ad.add (b * 16))) (.inl hcj) (.inr rfl)
          clear I2
          have hcjh := Lib.hid hcj
          have hcgh := Lib.hid hcg
          rw [hcj] at I3 ⊢
          simp only [Nat.sub_self] at I3
          clear hcj
          refine wp_region_planH (fun W => Gr tb wc W) [0, 1, 2, 3, 4, 5, 6, 7, 8] 3 (by kernel_rfl) (by kernel_rfl) (by kernel_rfl) (by kernel_rfl) (by intro c a d v w h; cases d <;> exact h) hdw ?_
          change wpPlanH _ _ _ _ _ _ _ _ _ wc.drew
          iterate 9 (refine wpPlanH_plain rfl (fun K hK => ?_); go_simp; refine hK _ ?_; clear hK K)
          clear hne cr
          have htd := Lib.hid (htc.out.drew)
          have hwd := Lib.hid (hGc.out.trans hdw)
          have hsz : Hid (w.heap.size < wc.drew.heap.size) := hsl.out
          have hdw2 := Lib.hid hdw
          clear hdw
          generalize wc.drew = Wd at htd hwd hsz hdw2 ⊢
          refine wpAnyH_each (rs := [9, 10]) (by kernel_rfl) (by decide) (fun K hK q hq => ?_)
          simp only [List.mem_cons, List.not_mem_nil, or_false] at hq
          rcases hq with rfl | rfl
          · refine wpOp_listed rfl ?_
            go_wp2_with fail
            refine (I3.out _ (hCG.out _ hwd.out) hwd.out htd.out).mono ?_
            rintro e w4 ⟨rfl, ht4, hg4⟩
            go_wp2_with fail
            refine postH_normal (hK _ _ _ (hdw2.out.trans hg4) ?_)
            clear hK K
            refine wpAnyH_each (rs := [10]) (by kernel_rfl) (by decide) (fun K hK q hq => ?_)
            obtain rfl := List.mem_singleton.1 hq
            refine wpOp_listed rfl ?_
            go_wp2_with fail
            have hg5 : Gr tb w4 (w4.alloc (.cells (bz 16).toArray 31)) := Gr.of ((Below.refl _ _).alloc (Nat.le_refl _) _)
            refine postH_normal (hK _ _ _ ((hdw2.out.trans hg4).trans hg5) ?_)
            clear hK K
            have hN5 := Lib.hid (Blk.new w4 (bz 16) 31)
            refine wpAnyH_each (rs := [11]) (by kernel_rfl) (by decide) (fun K hK q hq => ?_)
            obtain rfl := List.mem_singleton.1 hq
            refine wpOp_listed rfl ?_
            refine wpList_row_store rfl 31 _ _ rfl (D2.map bv) rfl rfl hN5.out h2s.out (by rw [h2l]; rfl) h2o ?_
            intro w6 hW6 ho6
            have hb6 : Below w4.heap.size w4 w6 := ((Below.refl _ _).alloc (Nat.le_refl _) _).trans (ho6.below (Nat.le_refl _))
            have hg6 := (hdw2.out.trans hg4).trans (Gr.of hb6)
            refine wpList_end (postH_normal (hK _ _ _ hg6 ?_))
            clear hK K
            refine wpAnyH_done (by kernel_rfl) ?_ _
            simp only [Act.put, List.setIfInBounds_toArray, List.set_cons_zero, List.set_cons_succ]
            have hle6 : w.heap.size < w4.heap.size := Nat.lt_of_lt_of_le hsz.out hg4.size
            have ht6 := ht4.below hb6 ht4.lt
            show KK _ w6
            refine hKK _ _ (Met.intro (hJ _ _ ?_))
            repeat apply Exists.intro
            refine ⟨⟨w4.heap.size, rfl, hle6, hW6.out, ht6, hg6⟩, ?_⟩
            try rw [hcjh.out]
            try rw [hcgh.out]
            rfl
          · refine wpOp_listed rfl ?_
            go_wp2_with fail
            have hg5 : Gr tb Wd (Wd.alloc (.cells (bz 16).toArray 31)) := Gr.of ((Below.refl _ _).alloc (Nat.le_refl _) _)
            refine postH_normal (hK _ _ _ (hdw2.out.trans hg5) ?_)
            clear hK K
            have hN5 := Lib.hid (Blk.new Wd (bz 16) 31)
            have ht5 := Lib.hid (htd.out.alloc (.cells (bz 16).toArray 31))
            have hg5d := Lib.hid (hdw2.out.trans hg5)
            have hw5 := Lib.hid (hwd.out.trans hg5)
            have hltd := Lib.hid htd.out.lt
            clear hg5
            obtain ⟨W5, hW5⟩ : ∃ W5, W5 = Wd.alloc (.cells (bz 16).toArray 31) := ⟨_, rfl⟩
            rw [← hW5] at hN5 ht5 hg5d hw5
            generalize hg : Wd.alloc _ = Wg
            have hgW : W5 = Wg := by rw [← hg, hW5]; rfl
            clear hg hW5
            subst hgW
            refine wpAnyH_each (rs := [9]) (by kernel_rfl) (by decide) (fun K hK q hq => ?_)
            obtain rfl := List.mem_singleton.1 hq
            refine wpOp_listed rfl ?_
            go_wp2_with fail
            refine (I3.out _ (hCG.out _ hw5.out) hw5.out ht5.out).mono ?_
            rintro e w4 ⟨rfl, ht4, hg4⟩
            go_wp2_with fail
            refine postH_normal (hK _ _ _ (hg5d.out.trans hg4) ?_)
            clear hK K
            have hN6 := Lib.hid (hN5.out.gr hg4 (Nat.ne_of_gt hltd.out))
            refine wpAnyH_each (rs := [11]) (by kernel_rfl) (by decide) (fun K hK q hq => ?_)
            obtain rfl := List.mem_singleton.1 hq
            refine wpOp_listed rfl ?_
            refine wpList_row_store rfl 31 _ _ rfl (D2.map bv) rfl rfl hN6.out h2s.out (by rw [h2l]; rfl) h2o ?_
            intro w6 hW6 ho6
            have hg6 : Gr tb wc w6 := by
              refine end_grw ?_ (hg5d.out.trans hg4) ho6
              have h1 := hdw2.out.size
              exact h1
            refine wpList_end (postH_normal (hK _ _ _ hg6 ?_))
            clear hK K
            refine wpAnyH_done (by kernel_rfl) ?_ _
            simp only [Act.put, List.setIfInBounds_toArray, List.set_cons_zero, List.set_cons_succ]
            have hle6 : w.heap.size < Wd.heap.size := hsz.out
            have ht6 := ht4.only ho6 (Nat.ne_of_lt hltd.out)
            show KK _ w6
            refine hKK _ _ (Met.intro (hJ _ _ ?_))
            repeat apply Exists.intro
            refine ⟨⟨Wd.heap.size, rfl, hle6, hW6.out, ht6, hg6⟩, ?_⟩
            try rw [hcjh.out]
            try rw [hcgh.out]
            rfl
      · by_cases hcg : cf = b
        · have I3 := I2 (some (pd.add b)) (some ad) (.inr rfl) (.inl hcg)
          clear I2
          have hcjh := Lib.hid hcj
          have hcgh := Lib.hid hcg
          rw [hcg] at I3 ⊢
          simp only [Nat.sub_self] at I3
          clear hcg
          refine wp_region_planH (fun W => Gr tb wc W) [0, 1, 2, 3, 4, 5, 6, 7, 8] 3 (by kernel_rfl) (by kernel_rfl) (by kernel_rfl) (by kernel_rfl) (by intro c a d v w h; cases d <;> exact h) hdw ?_
          change wpPlanH _ _ _ _ _ _ _ _ _ wc.drew
          iterate 9 (refine wpPlanH_plain rfl (fun K hK => ?_); go_simp; refine hK _ ?_; clear hK K)
          clear hne cr
          have htd := Lib.hid (htc.out.drew)
          have hwd := Lib.hid (hGc.out.trans hdw)
          have hsz : Hid (w.heap.size < wc.drew.heap.size) := hsl.out
          have hdw2 := Lib.hid hdw
          clear hdw
          generalize wc.drew = Wd at htd hwd hsz hdw2 ⊢
          refine wpAnyH_each (rs := [9, 10]) (by kernel_rfl) (by decide) (fun K hK q hq => ?_)
          simp only [List.mem_cons, List.not_mem_nil, or_false] at hq
          rcases hq with rfl | rfl
          · refine wpOp_listed rfl ?_
            go_wp2_with fail
            refine (I3.out _ (hCG.out _ hwd.out) hwd.out htd.out).mono ?_
            rintro e w4 ⟨rfl, ht4, hg4⟩
            go_wp2_with fail
            refine postH_normal (hK _ _ _ (hdw2.out.trans hg4) ?_)
            clear hK K
            refine wpAnyH_each (rs := [10]) (by kernel_rfl) (by decide) (fun K hK q hq => ?_)
            obtain rfl := List.mem_singleton.1 hq
            refine wpOp_listed rfl ?_
            go_wp2_with fail
            have hg5 : Gr tb w4 (w4.alloc (.cells (bz 16).toArray 31)) := Gr.of ((Below.refl _ _).alloc (Nat.le_refl _) _)
            refine postH_normal (hK _ _ _ ((hdw2.out.trans hg4).trans hg5) ?_)
            clear hK K
            have hN5 := Lib.hid (Blk.new w4 (bz 16) 31)
            refine wpAnyH_each (rs := [11]) (by kernel_rfl) (by decide) (fun K hK q hq => ?_)
            obtain rfl := List.mem_singleton.1 hq
            refine wpOp_listed rfl ?_
            refine wpList_row_store rfl 31 _ _ rfl (D2.map bv) rfl rfl hN5.out h2s.out (by rw [h2l]; rfl) h2o ?_
            intro w6 hW6 ho6
            have hb6 : Below w4.heap.size w4 w6 := ((Below.refl _ _).alloc (Nat.le_refl _) _).trans (ho6.below (Nat.le_refl _))
            have hg6 := (hdw2.out.trans hg4).trans (Gr.of hb6)
            refine wpList_end (postH_normal (hK _ _ _ hg6 ?_))
            clear hK K
            refine wpAnyH_done (by kernel_rfl) ?_ _
            simp only [Act.put, List.setIfInBounds_toArray, List.set_cons_zero, List.set_cons_succ]
            have hle6 : w.heap.size < w4.heap.size := Nat.lt_of_lt_of_le hsz.out hg4.size
            have ht6 := ht4.below hb6 ht4.lt
            show KK _ w6
            refine hKK _ _ (Met.intro (hJ _ _ ?_))
            repeat apply Exists.intro
            refine ⟨⟨w4.heap.size, rfl, hle6, hW6.out, ht6, hg6⟩, ?_⟩
            try rw [hcjh.out]
            try rw [hcgh.out]
            rfl
          · refine wpOp_listed rfl ?_
            go_wp2_with fail
            have hg5 : Gr tb Wd (Wd.alloc (.cells (bz 16).toArray 31)) := Gr.of ((Below.refl _ _).alloc (Nat.le_refl _) _)
            refine postH_normal (hK _ _ _ (hdw2.out.trans hg5) ?_)
            clear hK K
            have hN5 := Lib.hid (Blk.new Wd (bz 16) 31)
            have ht5 := Lib.hid (htd.out.alloc (.cells (bz 16).toArray 31))
            have hg5d := Lib.hid (hdw2.out.trans hg5)
            have hw5 := Lib.hid (hwd.out.trans hg5)
            have hltd := Lib.hid htd.out.lt
            clear hg5
            obtain ⟨W5, hW5⟩ : ∃ W5, W5 = Wd.alloc (.cells (bz 16).toArray 31) := ⟨_, rfl⟩
            rw [← hW5] at hN5 ht5 hg5d hw5
            generalize hg : Wd.alloc _ = Wg
            have hgW : W5 = Wg := by rw [← hg, hW5]; rfl
            clear hg hW5
            subst hgW
            refine wpAnyH_each (rs := [9]) (by kernel_rfl) (by decide) (fun K hK q hq => ?_)
            obtain rfl := List.mem_singleton.1 hq
            refine wpOp_listed rfl ?_
            go_wp2_with fail
            refine (I3.out _ (hCG.out _ hw5.out) hw5.out ht5.out).mono ?_
            rintro e w4 ⟨rfl, ht4, hg4⟩
            go_wp2_with fail
            refine postH_normal (hK _ _ _ (hg5d.out.trans hg4) ?_)
            clear hK K
            have hN6 := Lib.hid (hN5.out.gr hg4 (Nat.ne_of_gt hltd.out))
            refine wpAnyH_each (rs := [11]) (by kernel_rfl) (by decide) (fun K hK q hq => ?_)
            obtain rfl := List.mem_singleton.1 hq
            refine wpOp_listed rfl ?_
            refine wpList_row_store rfl 31 _ _ rfl (D2.map bv) rfl rfl hN6.out h2s.out (by rw [h2l]; rfl) h2o ?_
            intro w6 hW6 ho6
            have hg6 : Gr tb wc w6 := by
              refine end_grw ?_ (hg5d.out.trans hg4) ho6
              have h1 := hdw2.out.size
              exact h1
            refine wpList_end (postH_normal (hK _ _ _ hg6 ?_))
            clear hK K
            refine wpAnyH_done (by kernel_rfl) ?_ _
            simp only [Act.put, List.setIfInBounds_toArray, List.set_cons_zero, List.set_cons_succ]
            have hle6 : w.heap.size < Wd.heap.size := hsz.out
            have ht6 := ht4.only ho6 (Nat.ne_of_lt hltd.out)
            show KK _ w6
            refine hKK _ _ (Met.intro (hJ _ _ ?_))
            repeat apply Exists.intro
            refine ⟨⟨Wd.heap.size, rfl, hle6, hW6.out, ht6, hg6⟩, ?_⟩
            try rw [hcjh.out]
            try rw [hcgh.out]
            rfl
        · have I3 := I2 (some (pd.add b)) (some (ad.add (b * 16))) (.inr rfl) (.inr rfl)
          clear I2
          have hcjh := Lib.hid hcj
          have hcgh := Lib.hid hcg
          refine wp_region_planH (fun W => Gr tb wc W) [0, 1, 2, 3, 4, 5, 6, 7, 8] 3 (by kernel_rfl) (by kernel_rfl) (by kernel_rfl) (by kernel_rfl) (by intro c a d v w h; cases d <;> exact h) hdw ?_
          change wpPlanH _ _ _ _ _ _ _ _ _ wc.drew
          iterate 9 (refine wpPlanH_plain rfl (fun K hK => ?_); go_simp; refine hK _ ?_; clear hK K)
          clear hne cr
          have htd := Lib.hid (htc.out.drew)
          have hwd := Lib.hid (hGc.out.trans hdw)
          have hsz : Hid (w.heap.size < wc.drew.heap.size) := hsl.out
          have hdw2 := Lib.hid hdw
          clear hdw
          generalize wc.drew = Wd at htd hwd hsz hdw2 ⊢
          refine wpAnyH_each (rs := [9, 10]) (by kernel_rfl) (by decide) (fun K hK q hq => ?_)
          simp only [List.mem_cons, List.not_mem_nil, or_false] at hq
          rcases hq with rfl | rfl
          · refine wpOp_listed rfl ?_
            go_wp2_with fail
            refine (I3.out _ (hCG.out _ hwd.out) hwd.out htd.out).mono ?_
            rintro e w4 ⟨rfl, ht4, hg4⟩
            go_wp2_with fail
            refine postH_normal (hK _ _ _ (hdw2.out.trans hg4) ?_)
            clear hK K
            refine wpAnyH_each (rs := [10]) (by kernel_rfl) (by decide) (fun K hK q hq => ?_)
            obtain rfl := List.mem_singleton.1 hq
            refine wpOp_listed rfl ?_
            go_wp2_with fail
            have hg5 : Gr tb w4 (w4.alloc (.cells (bz 16).toArray 31)) := Gr.of ((Below.refl _ _).alloc (Nat.le_refl _) _)
            refine postH_normal (hK _ _ _ ((hdw2.out.trans hg4).trans hg5) ?_)
            clear hK K
            have hN5 := Lib.hid (Blk.new w4 (bz 16) 31)
            refine wpAnyH_each (rs := [11]) (by kernel_rfl) (by decide) (fun K hK q hq => ?_)
            obtain rfl := List.mem_singleton.1 hq
            refine wpOp_listed rfl ?_
            refine wpList_row_store rfl 31 _ _ rfl (D2.map bv) rfl rfl hN5.out h2s.out (by rw [h2l]; rfl) h2o ?_
            intro w6 hW6 ho6
            have hb6 : Below w4.heap.size w4 w6 := ((Below.refl _ _).alloc (Nat.le_refl _) _).trans (ho6.below (Nat.le_refl _))
            have hg6 := (hdw2.out.trans hg4).trans (Gr.of hb6)
            refine wpList_end (postH_normal (hK _ _ _ hg6 ?_))
            clear hK K
            refine wpAnyH_done (by kernel_rfl) ?_ _
            simp only [Act.put, List.setIfInBounds_toArray, List.set_cons_zero, List.set_cons_succ]
            have hle6 : w.heap.size < w4.heap.size := Nat.lt_of_lt_of_le hsz.out hg4.size
            have ht6 := ht4.below hb6 ht4.lt
            show KK _ w6
            refine hKK _ _ (Met.intro (hJ _ _ ?_))
            repeat apply Exists.intro
            refine ⟨⟨w4.heap.size, rfl, hle6, hW6.out, ht6, hg6⟩, ?_⟩
            try rw [hcjh.out]
            try rw [hcgh.out]
            rfl
          · refine wpOp_listed rfl ?_
            go_wp2_with fail
            have hg5 : Gr tb Wd (Wd.alloc (.cells (bz 16).toArray 31)) := Gr.of ((Below.refl _ _).alloc (Nat.le_refl _) _)
            refine postH_normal (hK _ _ _ (hdw2.out.trans hg5) ?_)
            clear hK K
            have hN5 := Lib.hid (Blk.new Wd (bz 16) 31)
            have ht5 := Lib.hid (htd.out.alloc (.cells (bz 16).toArray 31))
            have hg5d := Lib.hid (hdw2.out.trans hg5)
            have hw5 := Lib.hid (hwd.out.trans hg5)
            have hltd := Lib.hid htd.out.lt
            clear hg5
            obtain ⟨W5, hW5⟩ : ∃ W5, W5 = Wd.alloc (.cells (bz 16).toArray 31) := ⟨_, rfl⟩
            rw [← hW5] at hN5 ht5 hg5d hw5
            generalize hg : Wd.alloc _ = Wg
            have hgW : W5 = Wg := by rw [← hg, hW5]; rfl
            clear hg hW5
            subst hgW
            refine wpAnyH_each (rs := [9]) (by kernel_rfl) (by decide) (fun K hK q hq => ?_)
            obtain rfl := List.mem_singleton.1 hq
            refine wpOp_listed rfl ?_
            go_wp2_with fail
            refine (I3.out _ (hCG.out _ hw5.out) hw5.out ht5.out).mono ?_
            rintro e w4 ⟨rfl, ht4, hg4⟩
            go_wp2_with fail
            refine postH_normal (hK _ _ _ (hg5d.out.trans hg4) ?_)
            clear hK K
            have hN6 := Lib.hid (hN5.out.gr hg4 (Nat.ne_of_gt hltd.out))
            refine wpAnyH_each (rs := [11]) (by kernel_rfl) (by decide) (fun K hK q hq => ?_)
            obtain rfl := List.mem_singleton.1 hq
            refine wpOp_listed rfl ?_
            refine wpList_row_store rfl 31 _ _ rfl (D2.map bv) rfl rfl hN6.out h2s.out (by rw [h2l]; rfl) h2o ?_
            intro w6 hW6 ho6
            have hg6 : Gr tb wc w6 := by
              refine end_grw ?_ (hg5d.out.trans hg4) ho6
              have h1 := hdw2.out.size
              exact h1
            refine wpList_end (postH_normal (hK _ _ _ hg6 ?_))
            clear hK K
            refine wpAnyH_done (by kernel_rfl) ?_ _
            simp only [Act.put, List.setIfInBounds_toArray, List.set_cons_zero, List.set_cons_succ]
            have hle6 : w.heap.size < Wd.heap.size := hsz.out
            have ht6 := ht4.only ho6 (Nat.ne_of_lt hltd.out)
            show KK _ w6
            refine hKK _ _ (Met.intro (hJ _ _ ?_))
            repeat apply Exists.intro
            refine ⟨⟨Wd.heap.size, rfl, hle6, hW6.out, ht6, hg6⟩, ?_⟩
            try rw [hcjh.out]
            try rw [hcgh.out]
            rfl
    case rest =>
      obtain ⟨g2, hv2, hg2s, hB2, htd0, hGd0⟩ := hcut
      subst hv2
      have hne1 : g1 ≠ tb := by have := hg1s'.out; have := htl.out; omega
      have hne2 : w.heap.size ≠ tb := Nat.ne_of_gt htl.out
      have hB1'' := Lib.hid (hB1'.out.gr hGd0 hne1)
      have hB2' := Lib.hid hB2
      have htd := Lib.hid htd0
      have hGd := Lib.hid (hGc.out.trans hGd0)
      have hR3 := Lib.hid (hR2.out.gr hGd0 hne2)
      have hCd := Lib.hid (hCG.out _ hGd.out)
      clear hB1' hB2 htd0 hGd0 hR2 hGc htc hne1 hne2
      go_wp2_with (first | (refine wpList_blk_load rfl 31 _ rfl 0 rfl hB1''.out (D1.map bv) (take_all0 _) (.array 16 5) arr_dig rfl h1s.out ?_) | (refine wpList_blk_load rfl 31 _ rfl 0 rfl hB2'.out (D2.map bv) (take_all0 _) (.array 16 5) arr_dig rfl h2s.out ?_))
      refine (HN.out _ (Ckx.tab hCd.out)).mono ?_
      rintro e w5 ⟨rfl, hb5⟩
      have hR5 := hR3.out.below hb5 hR3.out.lt
      have ht5 := htd.out.below hb5 htd.out.lt
      have hG5 : Gr tb w w5 := hGd.out.trans (Gr.of hb5)
      go_wp2_with (refine wpList_row_store rfl 31 _ _ rfl (E.map bv) rfl rfl hR5 hEs.out (by rw [hEl]; rfl) hEo ?_; intro w6 hW6 ho6)
      exact bodyPost_ret (ret_blk rfl _ w6 (g := w.heap.size) rfl hW6.out (.array 16 5) arr_dig rfl hEs.out) rfl ⟨rfl, end_gr ht5 ho6 hG5 (Nat.le_refl _) htl.out⟩
end Go.Proofs.YtlgokfgiemaklaaDoor

namespace Go.Proofs.YtlgokfgiemaklaaDoor
set_option linter.unusedVariables false
set_option linter.unusedSimpArgs false
open Go.RowKit

theorem wlk_up (B0 lb rb nb pb tb : Nat) (root : List UInt8) (path : List (List UInt8)) (A : Option Addr) (c : Nat) (hd : D16 path) (N : Nat) : ∀ (o n m j np : Nat) (ps : List Int) (F : List (List UInt8)) (Ap Af : Option Addr) (cp cf : Nat) (w : World), n ≤ N → 1 ≤ n → m = o + n → m ≤ 140737488355328 → j + n ≤ 1000000000000000 → np = ps.length → np = F.length → np ≤ 1000000 → np ≤ cp → np ≤ cf → D16 F → Asc ps →
    Rds w B0 Ap (ps.map iv) → Rds w B0 Af ((flat F).map bv) → WlkC B0 lb rb nb pb tb root path A c w → Blk w tb [.int .i64 j] 3 →
    Calls Tryd.prog 48 #[.int .i64 o, .int .i64 m, .slice Ap np cp, .slice Af np cf, .pointer (some ⟨nb, 0, none⟩), .pointer (some ⟨rb, 0, none⟩)] w fun e w' => e = .returned (av (wlk path o n ps F j).1) ∧ Blk w' tb [.int .i64 ((wlk path o n ps F j).2 : Nat)] 3 ∧ Gr tb w w' := by
  induction N with
  | zero => intro o n m j np ps F Ap Af cp cf w h h1; omega
  | succ N ih =>
    intro o n m j np ps F Ap Af cp cf w h h1 hm h47 hj hnp hnf h6 hcp hcf hF hasc hrp hrf hC ht
    by_cases hnil : ps = []
    · subst hnil
      obtain rfl : np = 0 := by simpa using hnp
      rw [wlk_nil]
      exact wlk_up_nil B0 lb rb nb pb tb root path A c hd _ _ _ Ap cp j w (by omega) hC ht
    · have hn0 : 0 < ps.length := List.length_pos_iff.2 hnil
      obtain ⟨pd, rfl, _, _⟩ := hrp.look (k := 0) (u := iv (ps.getD 0 0)) (by rw [List.getElem?_map, List.getElem?_eq_getElem hn0, List.getD_eq_getElem?_getD, List.getElem?_eq_getElem hn0]; rfl)
      have hfl := flat_len F hF
      obtain ⟨ad, rfl, _, _⟩ := hrf (by
        intro h0
        have h1 := congrArg List.length h0
        rw [List.length_map, hfl] at h1
        simp at h1
        omega)
      by_cases h2 : 2 ≤ n
      · obtain ⟨k, hk⟩ : ∃ k, k = Mk.ksz n := ⟨_, rfl⟩
        obtain ⟨b, hb⟩ : ∃ b, b = bel ps ((o + k : Nat) : Int) := ⟨_, rfl⟩
        have hkn : k < n := by rw [hk]; exact Mk.ksz_lt h2
        have hkp : 0 < k := by rw [hk]; exact Mk.ksz_pos _
        have hbn : b ≤ np := by rw [hb, hnp]; exact bel_le _ _
        rw [wlk_two path o F j hnil h2 hk hb]
        have hF1 := hF.take b
        have hF2 := hF.drop b
        have l1 := wlk_le path hd k o k (ps.take b) (F.take b) j (Nat.le_refl _) (by omega) hF1
        have l2 := wlk_le path hd (n - k) (o + k) (n - k) (ps.drop b) (F.drop b) (wlk path o k (ps.take b) (F.take b) j).2 (Nat.le_refl _) (by omega) hF2
        have hne := Ckx.ne hC
        have hBG : ∀ W, Gr tb w W → Below B0 w W := fun W hg => hg.below hne.2.2.2.2.2.1 hne.2.2.2.2.2.2
        refine wlk_up_two B0 lb rb nb pb tb root path A c o n m k (o + k) b np cp cf j (wlk path o k (ps.take b) (F.take b) j).2 (wlk path (o + k) (n - k) (ps.drop b) (F.drop b) (wlk path o k (ps.take b) (F.take b) j).2).2 pd ad (wlk path o k (ps.take b) (F.take b) j).1 (wlk path (o + k) (n - k) (ps.drop b) (F.drop b) (wlk path o k (ps.take b) (F.take b) j).2).1 w h2 hm h47 hk rfl (by omega) hbn hcp hcf l1.2 l2.2 hC ht ?_ ?_ ?_
        · intro W hg
          have hs := search_any ps ((o + k : Nat) : Int) (some pd) cp W ((hrp.below (hBG W hg)).more (Nat.le_trans hne.2.2.2.2.2.2 hg.size)) hasc (by omega)
          rw [← hb, ← hnp] at hs
          exact hs
        · intro W hCW hg htW
          exact ih o k (o + k) j b (ps.take b) (F.take b) (some pd) (some ad) cp cf W (by omega) (by omega) rfl (by omega) (by omega) (by rw [List.length_take]; omega) (by rw [List.length_take]; omega) (by omega) (by omega) (by omega) hF1 (hasc.take b) (by rw [List.map_take]; exact (hrp.below (hBG W hg)).take b) (rds_take (hrf.below (hBG W hg)) hF b) hCW htW
        · intro A2 A3 h2' h3'
          show ∀ W, _
          intro W hCW hg htW
          refine ih (o + k) (n - k) m _ (np - b) (ps.drop b) (F.drop b) A2 A3 (cp - b) (cf - b) W (by omega) (by omega) (by omega) h47 (by omega) (by rw [List.length_drop]; omega) (by rw [List.length_drop]; omega) (by omega) (by omega) (by omega) hF2 (hasc.drop b) ?_ ?_ hCW htW
          · rcases h2' with h2' | rfl
            · rw [List.drop_eq_nil_of_le (by omega)]; exact Rds.empty
            · rw [List.map_drop]; exact (hrp.below (hBG W hg)).drop b
          · rcases h3' with h3' | rfl
            · rw [List.drop_eq_nil_of_le (by omega)]; exact Rds.empty
            · rw [Nat.mul_comm b 16]; exact rds_drop (hrf.below (hBG W hg)) hF b
      · have hn1 : n = 1 := by omega
        rw [wlk_one path o F j hnil (by omega)]
        exact wlk_up_one B0 lb rb nb pb tb root path A c o m np (by omega) h47 (by omega) F ad np cf hnf hF (by omega) (some pd) cp j w (Ckx.ne hC).2.2.2.2.2.2 hrf ht.lt ht

set_option maxRecDepth 100000 in
set_option maxHeartbeats 4000000 in
theorem chm1_any (B0 na pa fa ra pb tb : Nat) (root : List UInt8) (path : List (List UInt8)) (A : Option Addr) (c n np : Nat) (ps : List Int) (F : List (List UInt8)) (Ap Af : Option Addr) (cp cf : Nat) (r : Bool) (w : World) (hrl : root.length = 16) (hd : D16 path) (h1 : 1 ≤ n) (h47 : n ≤ 140737488355328)
    (hnp : np = ps.length) (hnf : np = F.length) (h6 : np ≤ 1000000) (hcp : np ≤ cp) (hcf : np ≤ cf) (hF : D16 F) (hasc : Asc ps) (hrp : Rds w B0 Ap (ps.map iv)) (hrf : Rds w B0 Af ((flat F).map bv))
    (hr : ((wlk path 0 n ps F 0).1 == root) = r) (b1 : Blk w na [.int .i64 n] 3) (b2 : Blk w pa [.slice Ap np cp] 37) (b3 : Blk w fa [.slice Af np cf] 22) (b4 : Blk w ra (root.map bv) 31) (b5 : Blk w pb [.slice A path.length c] 22) (b6 : Blk w tb [.int .i64 0] 3)
    (hrd : Rds w B0 A ((flat path).map bv)) (ht : Tab 2 w) (hg : 2 < B0) (hB : B0 ≤ tb) (n1 : na ≠ tb) (n2 : pa ≠ tb) (n3 : fa ≠ tb) (n4 : ra ≠ tb) (n5 : pb ≠ tb) :
    Calls Tryd.prog 47 #[cl2 72 tb pb, .pointer (some ⟨na, 0, none⟩), .pointer (some ⟨pa, 0, none⟩), .pointer (some ⟨fa, 0, none⟩), .pointer (some ⟨ra, 0, none⟩)] w fun e w' => e = .returned (.bool r) ∧ Blk w' tb [.int .i64 ((wlk path 0 n ps F 0).2 : Nat)] 3 ∧ Gr tb w w' := by
  obtain ⟨W2, hW2⟩ : ∃ W2, W2 = (w.alloc (.cells #[cl2 72 tb pb] 71)).alloc (.cells #[.nilFunc] 82) := ⟨_, rfl⟩
  have htl := b6.lt
  have hs2 : W2.heap.size = w.heap.size + 2 := by rw [hW2]; simp
  have hb2 : Below w.heap.size w W2 := by rw [hW2]; exact ((Below.refl _ _).alloc (Nat.le_refl _) _).alloc (by simp) _
  have hN2 : Blk W2 w.heap.size [cl2 72 tb pb] 71 := by rw [hW2]; exact (Blk.new _ [_] _).alloc _
  have hF2 : Blk W2 (w.heap.size + 1) [.nilFunc] 82 := by rw [hW2]; exact (Blk.new _ [_] _).at (by simp)
  have hsf : (Tryd.prog.info? 82).map (·.size) = some 1 := by kernel_rfl
  obtain ⟨G, hG⟩ : ∃ G, G = cl2 48 w.heap.size (w.heap.size + 1) := ⟨_, rfl⟩
  have hone : ∀ u ∈ G.cells.toList, u.oneCell' = true := by
    intro u hu
    rw [hG] at hu
    have hu' : u ∈ [cl2 48 w.heap.size (w.heap.size + 1)] := hu
    simp only [List.mem_singleton] at hu'
    subst hu'
    rfl
  have H3 : Hid (∀ W3, Hid (Blk W3 (w.heap.size + 1) [G] 82) → Only (w.heap.size + 1) W2 W3 → Gr tb w W3 ∧ WlkC B0 ra (w.heap.size + 1) w.heap.size pb tb root path A c W3 ∧ Blk W3 na [.int .i64 n] 3 ∧ Blk W3 pa [.slice Ap np cp] 37 ∧ Blk W3 fa [.slice Af np cf] 22 ∧ Blk W3 ra (root.map bv) 31 ∧ Blk W3 tb [.int .i64 0] 3) := fun W3 hf ho => by
    have hb3 : Below w.heap.size w W3 := hb2.trans (ho.below (Nat.le_succ _))
    refine ⟨Gr.of hb3, ⟨b4.below hb3 b4.lt, by rw [← hG]; exact hf.out, hN2.only ho (by omega), b5.below hb3 b5.lt, hrd.below (hb3.mono (by omega)), ht.on hb3, n4, by omega, by omega, n5, hg, hB, by have := hb3.size; omega⟩, b1.below hb3 b1.lt, b2.below hb3 b2.lt, b3.below hb3 b3.lt, b4.below hb3 b4.lt, b6.below hb3 b6.lt⟩
  have hle := wlk_le path hd n 0 n ps F 0 (Nat.le_refl _) h1 hF
  have HC : Hid (∀ W, WlkC B0 ra (w.heap.size + 1) w.heap.size pb tb root path A c W → Gr tb w W → Blk W tb [.int .i64 0] 3 →
      Calls Tryd.prog 48 #[.int .i64 0, .int .i64 n, .slice Ap np cp, .slice Af np cf, .pointer (some ⟨w.heap.size, 0, none⟩), .pointer (some ⟨w.heap.size + 1, 0, none⟩)] W fun e w' => e = .returned (av (wlk path 0 n ps F 0).1) ∧ Blk w' tb [.int .i64 ((wlk path 0 n ps F 0).2 : Nat)] 3 ∧ Gr tb W w') := fun W hC hgW htW => by
    have hbw : Below B0 w W := hgW.below hB (by omega)
    exact wlk_up B0 ra (w.heap.size + 1) w.heap.size pb tb root path A c hd n 0 n n 0 np ps F Ap Af cp cf W (Nat.le_refl _) h1 (by omega) h47 (by omega) hnp hnf h6 hcp hcf hF hasc (hrp.below hbw) (hrf.below hbw) hC htW
  generalize wlk path 0 n ps F 0 = R at HC hle hr ⊢
  obtain ⟨D, m⟩ := R
  simp only at HC hle hr ⊢
  have hDl : (D.map bv).length = 16 := by rw [List.length_map, hle.2]
  have hDs := Lib.hid (size_dig16 _ hDl)
  have hRl : (root.map bv).length = 16 := by rw [List.length_map, hrl]
  have hRs := Lib.hid (size_dig16 _ hRl)
  have hr' := Lib.hid hr
  have hle' := Lib.hid hle
  have hW2' := Lib.hid hW2
  have hG' := Lib.hid hG
  have hF2' := Lib.hid hF2
  have hn2' := Lib.hid (And.intro n1 (And.intro n2 (And.intro n3 n4)))
  have hmf : ∀ (fn : Fn) (first cap : Array Value) (w : World), (Instr.makeFunc fn first cap).run Tryd.prog w = .ok (.func fn first cap) w := fun _ _ _ _ => rfl
  unfold av at HC
  clear hr hle hW2 hG b1 b2 b3 b4 b5 b6 hrd ht hg hB n1 n2 n3 n4 n5 hs2 hb2 hN2 hF2 htl h1 h47 hnp hnf h6 hcp hcf hF hasc hrp hrf
  unfold cl2 at hW2' ⊢
  have hF2c := hF2'.out
  rw [hW2'.out] at hF2c
  have hF2d := Lib.hid hF2c
  clear hF2c hF2'
  rw [hG'.out] at hone
  unfold cl2 at hone
  go_enter Tryd.func47, Tryd.ntmps47
  go_wp2_with (refine wpList_blk_store rfl 82 _ _ rfl 0 _ rfl rfl hF2d.out hsf (Nat.le_of_eq rfl) hone ?_; intro W3 hf3 ho3)
  rw [← hW2'.out] at ho3
  have hf3' : Hid (Blk W3 (w.heap.size + 1) [G] 82) := by show Blk _ _ _ _; rw [hG'.out]; exact hf3.out
  obtain ⟨hG3, hC3, q1, q2, q3, q4, q6⟩ := H3.out W3 hf3' ho3
  have hd3 : Gr tb W3 W3.drew := Gr.of ((Below.refl _ _).drew)
  have hC3' := Lib.hid hC3
  have q1' := Lib.hid q1
  have q2' := Lib.hid q2
  have q3' := Lib.hid q3
  have q4' := Lib.hid q4
  have q6' := Lib.hid q6
  have cr : ∀ x : ROf (Gr tb) W3.drew, x.world.cell? ⟨w.heap.size + 1, 0, none⟩ = some (cl2 48 w.heap.size (w.heap.size + 1)) := fun x => Blk.cell (Ckx.fn (Ckx.gr hC3'.out (hd3.trans x.rel))) rfl
  have cn : ∀ x : ROf (Gr tb) W3.drew, x.world.cell? ⟨na, 0, none⟩ = some (.int .i64 n) := fun x => (q1'.out.gr (hd3.trans x.rel) hn2'.out.1).cell rfl
  have cpp : ∀ x : ROf (Gr tb) W3.drew, x.world.cell? ⟨pa, 0, none⟩ = some (.slice Ap np cp) := fun x => (q2'.out.gr (hd3.trans x.rel) hn2'.out.2.1).cell rfl
  have cff : ∀ x : ROf (Gr tb) W3.drew, x.world.cell? ⟨fa, 0, none⟩ = some (.slice Af np cf) := fun x => (q3'.out.gr (hd3.trans x.rel) hn2'.out.2.2.1).cell rfl
  unfold cl2 at cr
  clear hC3 q1 q2 q3 q4 q6 hf3 hf3' ho3 H3
  refine wp_region_planR (R := Gr tb) (Gr.refl tb) (fun _ _ _ h k => h.trans k) [] [(true, 0), (true, 1), (true, 2), (true, 3), (true, 5), (false, 4), (true, 6), (true, 7)] (by decide) (by kernel_rfl) (by kernel_rfl) (by decide) (by intro c a d v w h; cases d <;> exact h) ?_
  change wpPlanR _ _ _ _ _ _ _ W3.drew
  iterate 4 (refine wpPlanR_plain rfl (fun K hK => ?_); go_simp; refine hK _ ?_; clear hK K)
  refine wpPlanR_runW rfl (by rfl) _ (fun x => load_run 31 _ rfl ra 0 rfl (root.map bv) (.array 16 5) arr_dig rfl hRs.out x.world ((q4'.out.gr (hd3.trans x.rel) hn2'.out.2.2.2).range 0 _ (take_all0 _))) ?_
  refine wpPlanR_call rfl (fun K hK => ?_)
  go_wp2_with fail
  refine (HC.out _ (Ckx.gr hC3'.out hd3) (hG3.trans hd3) q6'.out.drew).mono ?_
  rintro e w4 ⟨rfl, ht4, hg4⟩
  go_wp2_with fail
  refine planPostR_normal ⟨.inr hg4, hK _ _ ?_⟩
  clear hK K
  have hG4 : Gr tb w w4 := (hG3.trans hd3).trans hg4
  refine wpPlanR_runW rfl (by rfl) _ (fun x => eql_run 31 _ _ _ rfl 16 arr_dig (by kernel_rfl) D root hle'.out.2 hrl rfl rfl r hr'.out x.world) ?_
  refine wpPlanR_plain rfl (fun K hK => ?_)
  go_simp
  refine hK _ ?_
  clear hK K
  refine wpPlanR_nil ?_
  go_wp2_with fail
  go_ret
  exact ⟨rfl, ht4, hG4⟩
end Go.Proofs.YtlgokfgiemaklaaDoor
