/-
  Contracts of stage 3: the next digest of a path (a closure). Contracts of stage 3: CheckInclusion's closure, which climbs from a leaf to the root. Contracts of stage 3: follow, which defers the test that a path is used up. Contracts of stage 3: CheckInclusion. Contracts of stage 3: CheckInclusion itself.
-/
import Derived.Test.YtlgokfgiemaklaaDoorBmn
import Derived.Test.YtlgokfgiemaklaaDoorRg
import Derived.Defers
namespace Go.Proofs.YtlgokfgiemaklaaDoor
set_option linter.unusedVariables false
set_option linter.unusedSimpArgs false
open Go.RowKit

def z16 : List UInt8 := List.replicate 16 0
/-- The j-th digest of a path, and a zero digest behind its end. -/
def nx (path : List (List UInt8)) (j : Nat) : List UInt8 := path.getD j z16
theorem nx_len {path : List (List UInt8)} (h : D16 path) (j : Nat) : (nx path j).length = 16 := by
  unfold nx
  rw [List.getD_eq_getElem?_getD]
  cases hq : path[j]? with
  | none => rfl
  | some d => exact h d (List.mem_of_getElem? hq)
/-- Nothing that was there has changed but block t. -/
def Gr (t : Nat) (w w' : World) : Prop := w.grownBy w' (some t)
theorem Gr.refl (t : Nat) (w : World) : Gr t w w := ⟨rfl, rfl, rfl, Nat.le_refl _, fun _ _ _ => rfl⟩
instance (t : Nat) (w : World) : Nonempty (ROf (Gr t) w) := ⟨⟨w, Gr.refl t w⟩⟩
theorem Gr.trans {t : Nat} {a b c : World} (h : Gr t a b) (k : Gr t b c) : Gr t a c :=
  ⟨k.os.trans h.os, k.tape.trans h.tape, k.output.trans h.output, Nat.le_trans h.size k.size, fun i hi hne => (k.block i (Nat.lt_of_lt_of_le hi h.size) hne).trans (h.block i hi hne)⟩
theorem Gr.of {t : Nat} {a b : World} (h : Below a.heap.size a b) : Gr t a b := ⟨h.os, h.tape, h.output, h.size, fun i hi _ => h.block i hi⟩
theorem Gr.only {t : Nat} {a b : World} (h : Only t a b) : Gr t a b := ⟨h.os, h.tape, h.output, by rw [h.size]; exact Nat.le_refl _, fun i _ hne => h.block i (fun e => hne (by rw [e]))⟩
theorem Gr.below {t B : Nat} {a b : World} (h : Gr t a b) (hB : B ≤ t) (hs : B ≤ a.heap.size) : Below B a b := ⟨h.os, h.tape, h.output, h.size, fun i hi => h.block i (by omega) (fun e => by injection e with e; omega)⟩
theorem Blk.gr {t g : Nat} {a b : World} {L : List Value} {ty : TypeId} (h : Blk a g L ty) (hg : Gr t a b) (hne : g ≠ t) : Blk b g L ty := (hg.block g h.lt (fun e => by injection e with e; exact hne e)).trans h
theorem size_int : (Tryd.prog.info? 3).map (·.size) = some 1 := by kernel_rfl

set_option maxRecDepth 100000 in
set_option maxHeartbeats 2000000 in
theorem next_any (path : List (List UInt8)) (A : Option Addr) (c j tb pb B0 : Nat) (w : World) (hd : D16 path) (hr : Rds w B0 A ((flat path).map bv)) (hB : B0 ≤ tb) (hne : tb ≠ pb) (hj : j ≤ 1000000000000000) (ht : Blk w tb [.int .i64 j] 3) (hp : Blk w pb [.slice A path.length c] 22) :
    Calls Tryd.prog 72 #[.pointer (some ⟨tb, 0, none⟩), .pointer (some ⟨pb, 0, none⟩)] w fun e w' => e = .returned (av (nx path j)) ∧ Blk w' tb [.int .i64 ((j + 1 : Nat) : Int)] 3 ∧ Gr tb w w' := by
  have c1 : ∀ o, (w.alloc o).cell? ⟨tb, 0, none⟩ = some (.int .i64 j) := fun o => (ht.alloc o).cell rfl
  have hta := Lib.hid (fun o => ht.alloc o)
  have hlt := Lib.hid ht.lt
  have CC : Hid (∀ o W2, Only tb (w.alloc o) W2 → W2.cell? ⟨pb, 0, none⟩ = some (.slice A path.length c)) := fun o W2 ho => ((hp.alloc o).only ho hne.symm).cell rfl
  have hRn := Lib.hid (fun W2 (ho : Only tb (w.alloc (.cells (bz 16).toArray 31)) W2) => (Blk.new w (bz 16) 31).only ho (Nat.ne_of_gt ht.lt))
  have hG : Hid (∀ o W2, Only tb (w.alloc o) W2 → Gr tb w W2) := fun o W2 ho => (Gr.of ((Below.refl _ _).alloc (Nat.le_refl _) o)).trans (Gr.only ho)
  have hrr : Hid (∀ o W2, Only tb (w.alloc o) W2 → Rds W2 B0 A ((flat path).map bv)) := fun o W2 ho => (hr.alloc (Nat.le_trans hB (Nat.le_of_lt ht.lt)) o).below (ho.below hB)
  obtain ⟨D, hD⟩ : ∃ D, D = nx path j := ⟨_, rfl⟩
  have hDl : (D.map bv).length = 16 := by rw [List.length_map, hD]; exact nx_len hd j
  have hDs := Lib.hid (size_dig16 _ hDl)
  have hDo := av_one D
  rw [← hD]
  unfold av
  have hend : Hid (∀ W2 W3, Hid (Blk W2 tb [.int .i64 ((j : Int) + 1)] 3) → Only w.heap.size W2 W3 → Gr tb w W2 → Blk W3 tb [.int .i64 ((j + 1 : Nat) : Int)] 3 ∧ Gr tb w W3) := fun W2 W3 h2 ho3 hg => by
    refine ⟨?_, ?_⟩
    · have := h2.out.only ho3 (Nat.ne_of_lt ht.lt)
      rw [show ((j + 1 : Nat) : Int) = (j : Int) + 1 by omega]
      exact this
    · exact ⟨ho3.os.trans hg.os, ho3.tape.trans hg.tape, ho3.output.trans hg.output, by rw [ho3.size]; exact hg.size, fun i hi hne => (ho3.block i (by omega)).trans (hg.block i hi hne)⟩
  by_cases hjn : j < path.length
  · obtain ⟨d, hdj⟩ : ∃ d, path[j]? = some d := ⟨_, List.getElem?_eq_getElem hjn⟩
    have hDd : D = d := by rw [hD]; unfold nx; rw [List.getD_eq_getElem?_getD, hdj]; rfl
    obtain ⟨ad, hA, hab⟩ : ∃ ad, A = some ad ∧ Hid (∀ o W2, Only tb (w.alloc o) W2 → ∀ i v, (D.map bv)[i]? = some v → W2.cell? ((ad.add (j * 16)).add i) = some v) := by
      have hA0 : Dg w A path := hr.more (Nat.le_trans hB (Nat.le_of_lt ht.lt))
      obtain ⟨ad, rfl, _, _, _⟩ := hA0.at hd hdj
      refine ⟨ad, rfl, fun o W2 ho i v hv => ?_⟩
      have h2 : Dg W2 (some ad) path := (hrr.out o W2 ho).more (by rw [ho.size]; simp; have := ht.lt; omega)
      obtain ⟨ad', he, _, _, hc⟩ := h2.at hd hdj
      injection he with he
      subst he
      exact hc i v (by rw [← hDd]; exact hv)
    subst hA
    have t1 : ¬ (path.length : Int) < (j : Int) + 1 := by omega
    have t2 : (j : Int) < (path.length : Int) := by omega
    obtain ⟨n, hn⟩ : ∃ n, n = path.length := ⟨_, rfl⟩
    rw [← hn] at CC t1 t2
    clear hdj hDd hD hd hr hp ht hn hjn hrr
    have b1 : (0 : Int) ≤ (j : Int) := by omega
    go_enter Tryd.func72, Tryd.ntmps72
    go_wp2_with (first | (refine wpList_blk_store rfl 3 _ _ rfl 0 (.int .i64 ((j : Int) + 1)) rfl rfl (hta.out _) size_int (Nat.le_of_eq rfl) (one_int _ _) ?_; intro W2 ht2 ho2; have c2 := ht2.out.cell (j := 0) rfl; have c3 := CC.out _ _ ho2) | (refine wpList_load_arr rfl 31 _ rfl _ rfl (D.map bv) 16 5 (hab.out _ _ ho2) arr_dig hDs.out ?_) | (refine wpList_row_store rfl 31 _ _ rfl (D.map bv) rfl rfl (hRn.out _ ho2) hDs.out (by rw [hDl]; rfl) hDo ?_; intro W3 hW3 ho3))
    exact bodyPost_ret (ret_blk rfl _ W3 (g := w.heap.size) rfl hW3.out (.array 16 5) arr_dig rfl hDs.out) rfl ⟨rfl, hend.out W2 W3 ht2 ho3 (hG.out _ _ ho2)⟩
  · have hDd : D = z16 := by rw [hD]; unfold nx; rw [List.getD_eq_getElem?_getD, List.getElem?_eq_none (by omega)]; rfl
    have t1 : (path.length : Int) < (j : Int) + 1 := by omega
    obtain ⟨n, hn⟩ : ∃ n, n = path.length := ⟨_, rfl⟩
    rw [← hn] at CC t1
    subst hDd
    clear hD hd hr hp ht hn hjn hrr
    go_enter Tryd.func72, Tryd.ntmps72
    go_wp2_with (first | (refine wpList_blk_store rfl 3 _ _ rfl 0 (.int .i64 ((j : Int) + 1)) rfl rfl (hta.out _) size_int (Nat.le_of_eq rfl) (one_int _ _) ?_; intro W2 ht2 ho2; have c2 := ht2.out.cell (j := 0) rfl; have c3 := CC.out _ _ ho2) | (refine wpList_row_store rfl 31 _ _ rfl (z16.map bv) rfl rfl (hRn.out _ ho2) hDs.out (by rw [hDl]; rfl) hDo ?_; intro W3 hW3 ho3))
    exact bodyPost_ret (ret_blk rfl _ W3 (g := w.heap.size) rfl hW3.out (.array 16 5) arr_dig rfl hDs.out) rfl ⟨rfl, hend.out W2 W3 ht2 ho3 (hG.out _ _ ho2)⟩
end Go.Proofs.YtlgokfgiemaklaaDoor

namespace Go.Proofs.YtlgokfgiemaklaaDoor
set_option linter.unusedVariables false
set_option linter.unusedSimpArgs false
open Go.RowKit

/-- The root that a path leads to from a leaf, and the place in the path behind it. -/
def clm (path : List (List UInt8)) (leaf : List UInt8) (i n j : Nat) : List UInt8 × Nat :=
  if h : n ≤ 1 then (leaf, j)
  else if i < Mk.ksz n then (nd (clm path leaf i (Mk.ksz n) j).1 (nx path (clm path leaf i (Mk.ksz n) j).2), (clm path leaf i (Mk.ksz n) j).2 + 1)
  else (nd (nx path (clm path leaf (i - Mk.ksz n) (n - Mk.ksz n) j).2) (clm path leaf (i - Mk.ksz n) (n - Mk.ksz n) j).1, (clm path leaf (i - Mk.ksz n) (n - Mk.ksz n) j).2 + 1)
termination_by n
decreasing_by
  all_goals
    have h1 := Mk.ksz_lt (show 2 ≤ n by omega)
    have h2 := Mk.ksz_pos n
    omega
theorem clm_one (path : List (List UInt8)) (leaf : List UInt8) (i : Nat) {n : Nat} (j : Nat) (h : n ≤ 1) : clm path leaf i n j = (leaf, j) := by rw [clm, dif_pos h]
theorem clm_left (path : List (List UInt8)) (leaf : List UInt8) {i n : Nat} (j : Nat) (h : 2 ≤ n) (hi : i < Mk.ksz n) : clm path leaf i n j = (nd (clm path leaf i (Mk.ksz n) j).1 (nx path (clm path leaf i (Mk.ksz n) j).2), (clm path leaf i (Mk.ksz n) j).2 + 1) := by
  rw [clm, dif_neg (by omega), if_pos hi]
theorem clm_right (path : List (List UInt8)) (leaf : List UInt8) {i n : Nat} (j : Nat) (h : 2 ≤ n) (hi : ¬ i < Mk.ksz n) : clm path leaf i n j = (nd (nx path (clm path leaf (i - Mk.ksz n) (n - Mk.ksz n) j).2) (clm path leaf (i - Mk.ksz n) (n - Mk.ksz n) j).1, (clm path leaf (i - Mk.ksz n) (n - Mk.ksz n) j).2 + 1) := by
  rw [clm, dif_neg (by omega), if_neg hi]
theorem clm_le (path : List (List UInt8)) (leaf : List UInt8) (hl : leaf.length = 16) (N : Nat) : ∀ (i n j : Nat), n ≤ N → 1 ≤ n → (clm path leaf i n j).2 ≤ j + n ∧ (clm path leaf i n j).1.length = 16 := by
  induction N with
  | zero => intro i n j h h1; omega
  | succ N ih =>
    intro i n j h h1
    by_cases h2 : 2 ≤ n
    · have a := Mk.ksz_lt h2
      have b := Mk.ksz_pos n
      by_cases hi : i < Mk.ksz n
      · have := ih i (Mk.ksz n) j (by omega) (by omega)
        rw [clm_left path leaf j h2 hi]
        exact ⟨by simp only; omega, nd_len _ _⟩
      · have := ih (i - Mk.ksz n) (n - Mk.ksz n) j (by omega) (by omega)
        rw [clm_right path leaf j h2 hi]
        exact ⟨by simp only; omega, nd_len _ _⟩
    · rw [clm_one path leaf i j (by omega)]
      exact ⟨by simp only; omega, hl⟩

/-- A closure with three captured variables. -/
def cl3 (f p q r : Nat) : Value := .func (.func f) #[] #[.pointer (some ⟨p, 0, none⟩), .pointer (some ⟨q, 0, none⟩), .pointer (some ⟨r, 0, none⟩)]
/-- The variables of a check: the leaf in block lb, the climbing closure in rb, the next digest's in nb, the path in pb, and how many are taken in tb. -/
structure Ckx (w : World) (B0 lb rb nb pb tb : Nat) (F : Value) (tf : TypeId) (leaf : List UInt8) (path : List (List UInt8)) (A : Option Addr) (c : Nat) : Prop where
  leaf : Blk w lb (leaf.map bv) 31
  fn : Blk w rb [F] tf
  nxt : Blk w nb [cl2 72 tb pb] 71
  pth : Blk w pb [.slice A path.length c] 22
  rds : Rds w B0 A ((flat path).map bv)
  tab : Tab 2 w
  ne : lb ≠ tb ∧ rb ≠ tb ∧ nb ≠ tb ∧ pb ≠ tb ∧ 2 < B0 ∧ B0 ≤ tb ∧ B0 ≤ w.heap.size
theorem Ckx.gr {w w' : World} {B0 lb rb nb pb tb : Nat} {F : Value} {tf : TypeId} {leaf : List UInt8} {path : List (List UInt8)} {A : Option Addr} {c : Nat} (h : Ckx w B0 lb rb nb pb tb F tf leaf path A c) (hg : Gr tb w w') : Ckx w' B0 lb rb nb pb tb F tf leaf path A c := by
  obtain ⟨h1, h2, h3, h4, h5, h6, n1, n2, n3, n4, n5, n6, n7⟩ := h
  have hb := hg.below n6 n7
  exact ⟨h1.gr hg n1, h2.gr hg n2, h3.gr hg n3, h4.gr hg n4, h5.below hb, h6.below hb n5, n1, n2, n3, n4, n5, n6, Nat.le_trans n7 hg.size⟩

theorem end_gr {tb g : Nat} {w W2 W3 : World} {v : Value} {ty : TypeId} (h2 : Blk W2 tb [v] ty) (ho3 : Only g W2 W3) (hg : Gr tb w W2) (hge : w.heap.size ≤ g) (hlt : tb < w.heap.size) : Blk W3 tb [v] ty ∧ Gr tb w W3 :=
  ⟨h2.only ho3 (by omega), ⟨ho3.os.trans hg.os, ho3.tape.trans hg.tape, ho3.output.trans hg.output, by rw [ho3.size]; exact hg.size, fun i hi hne => (ho3.block i (by omega)).trans (hg.block i hi hne)⟩⟩

set_option maxRecDepth 100000 in
set_option maxHeartbeats 4000000 in
theorem climb_up (B0 lb rb nb pb tb : Nat) (leaf : List UInt8) (path : List (List UInt8)) (A : Option Addr) (c : Nat) (hl : leaf.length = 16) (hd : D16 path) (N : Nat) : ∀ (i n j : Nat) (w : World), n ≤ N → 1 ≤ n → n ≤ 140737488355328 → i < n → j + n ≤ 1000000000000000 → Ckx w B0 lb rb nb pb tb (cl3 57 lb rb nb) 92 leaf path A c → Blk w tb [.int .i64 j] 3 →
    Calls Tryd.prog 57 #[.int .i64 i, .int .i64 n, .pointer (some ⟨lb, 0, none⟩), .pointer (some ⟨rb, 0, none⟩), .pointer (some ⟨nb, 0, none⟩)] w fun e w' => e = .returned (av (clm path leaf i n j).1) ∧ Blk w' tb [.int .i64 ((clm path leaf i n j).2 : Nat)] 3 ∧ Gr tb w w' := by
  induction N with
  | zero => intro i n j w h h1; omega
  | succ N ih =>
    intro i n j w h h1 h47 hi hj hC ht
    have hCa : Hid (∀ o, Ckx (w.alloc o) B0 lb rb nb pb tb (cl3 57 lb rb nb) 92 leaf path A c) := fun o => hC.gr (Gr.of ((Below.refl _ _).alloc (Nat.le_refl _) o))
    have hta := Lib.hid (fun o => ht.alloc o)
    have hR1 : Hid (Blk (w.alloc (.cells (bz 16).toArray 31)) w.heap.size (bz 16) 31) := Blk.new _ _ _
    have hG1 : Hid (∀ o, Gr tb w (w.alloc o)) := fun o => Gr.of ((Below.refl _ _).alloc (Nat.le_refl _) o)
    have htl := Lib.hid ht.lt
    have hlg : Hid (Blk w lb (leaf.map bv) 31) := hC.leaf
    by_cases h2 : 2 ≤ n
    · have t0 : ((n : Int) == 1) = false := by simp; omega
      have HF := Lib.hid (fun W => firstSize_any n W h2 h47)
      obtain ⟨k, hk⟩ : ∃ k, k = Mk.ksz n := ⟨_, rfl⟩
      have hkn : k < n := by rw [hk]; exact Mk.ksz_lt h2
      have hkp : 0 < k := by rw [hk]; exact Mk.ksz_pos _
      rw [← hk] at HF
      have cr : ∀ o, (w.alloc o).cell? ⟨rb, 0, none⟩ = some (cl3 57 lb rb nb) := fun o => (hCa.out o).fn.cell rfl
      unfold cl3 at cr
      by_cases hik : i < k
      · have hcl : Hid (clm path leaf i n j = (nd (clm path leaf i k j).1 (nx path (clm path leaf i k j).2), (clm path leaf i k j).2 + 1)) := by show _ = _; rw [hk] at hik ⊢; exact clm_left path leaf j h2 hik
        rw [hcl.out]
        have hle := clm_le path leaf hl k i k j (Nat.le_refl _) (by omega)
        have I1 := Lib.hid (fun W hC ht => ih i k j W (by omega) (by omega) (by omega) hik (by omega) hC ht)
        generalize clm path leaf i k j = R at I1 hle ⊢
        obtain ⟨D, m⟩ := R
        simp only at I1 hle ⊢
        have t2 : (i : Int) < (k : Int) := by omega
        have HX := Lib.hid (fun W (hC : Ckx W B0 lb rb nb pb tb (cl3 57 lb rb nb) 92 leaf path A c) (ht : Blk W tb [.int .i64 m] 3) => next_any path A c m tb pb B0 W hd hC.rds hC.ne.2.2.2.2.2.1 hC.ne.2.2.2.1.symm (by omega) ht hC.pth)
        have hxl := nx_len hd m
        generalize nx path m = X at HX hxl ⊢
        have HN := Lib.hid (fun W hT => node_any D X W hle.2 hxl hT)
        have hnl := nd_len D X
        generalize nd D X = E at HN hnl ⊢
        have hDl : (D.map bv).length = 16 := by rw [List.length_map, hle.2]
        have hDs := Lib.hid (size_dig16 _ hDl)
        have hDo := av_one D
        have hEl : (E.map bv).length = 16 := by rw [List.length_map, hnl]
        have hEs := Lib.hid (size_dig16 _ hEl)
        have hEo := av_one E
        unfold av at I1 HX HN ⊢
        clear hk hle hcl hC ht ih h hj h1 h2 hl hd
        go_enter Tryd.func57, Tryd.ntmps57
        go_wp2_with fail
        refine (HF.out _).mono ?_
        rintro e w1 ⟨rfl, hw1⟩
        subst hw1
        go_wp2_with fail
        refine (I1.out _ (hCa.out _) (hta.out _)).mono ?_
        rintro e w2 ⟨rfl, ht2, hg2⟩
        have hG2 : Gr tb w w2 := (hG1.out _).trans hg2
        have hR2 := Lib.hid (hR1.out.gr hg2 (Nat.ne_of_gt htl.out))
        have hC2 := Lib.hid ((hCa.out _).gr hg2)
        clear hg2 cr
        go_wp2_with (refine wpList_row_store rfl 31 _ _ rfl (D.map bv) rfl rfl (Blk.new w2 (bz 16) 31) hDs.out (by rw [hDl]; rfl) hDo ?_; intro w3 hW3 ho3)
        have hb3 : Below w2.heap.size w2 w3 := ((Below.refl _ _).alloc (Nat.le_refl _) _).trans (ho3.below (Nat.le_refl _))
        have ht3 := Lib.hid (ht2.below hb3 ht2.lt)
        have hG3 : Gr tb w w3 := hG2.trans (Gr.of hb3)
        have hR3 := Lib.hid (hR2.out.below hb3 hR2.out.lt)
        have hC3 := Lib.hid (hC2.out.gr (Gr.of hb3))
        have hW3' := Lib.hid hW3
        have hne3 : Hid (w2.heap.size ≠ tb) := by have := ht2.lt; show _ ≠ _; omega
        clear ho3 hb3 ht2 hG2 hR2 hC2 hW3
        have hd3 : Gr tb w3 w3.drew := Gr.of ((Below.refl _ _).drew)
        have cn : ∀ x : ROf (Gr tb) w3.drew, x.world.cell? ⟨nb, 0, none⟩ = some (cl2 72 tb pb) := fun x => (hC3.out.gr (hd3.trans x.rel)).nxt.cell rfl
        unfold cl2 at cn
        refine wp_region_planR (R := Gr tb) (Gr.refl tb) (fun _ _ _ h k => h.trans k) [4] [(true, 0), (true, 1), (false, 2), (false, 3), (false, 4)] (by decide) (by kernel_rfl) (by kernel_rfl) (by decide) (by intro c a d v w h; cases d <;> exact h) ?_
        change wpPlanR _ _ _ _ _ _ _ w3.drew
        refine wpPlanR_runW rfl (by rfl) _ (fun x => load_run 31 _ rfl w2.heap.size 0 rfl (D.map bv) (.array 16 5) arr_dig rfl hDs.out x.world ((hW3'.out.gr (hd3.trans x.rel) hne3.out).range 0 _ (take_all0 _))) ?_
        refine wpPlanR_plain rfl (fun K hK => ?_)
        go_simp
        refine hK _ ?_
        clear hK K
        refine wpPlanR_call rfl (fun K hK => ?_)
        go_wp2_with fail
        refine (HX.out _ (hC3.out.gr hd3) (ht3.out.drew)).mono ?_
        rintro e w4 ⟨rfl, ht4, hg4⟩
        go_wp2_with fail
        refine planPostR_normal ⟨.inr hg4, hK _ _ ?_⟩
        clear hK K
        have hG4 : Gr tb w w4 := (hG3.trans hd3).trans hg4
        have hC4 := Lib.hid (hC3.out.gr (hd3.trans hg4))
        have hR4 := Lib.hid (hR3.out.gr (hd3.trans hg4) (Nat.ne_of_gt htl.out))
        have ht4' := Lib.hid ht4
        refine wpPlanR_call rfl (fun K hK => ?_)
        go_wp2_with fail
        refine (HN.out _ hC4.out.tab).mono ?_
        rintro e w5 ⟨rfl, hb5⟩
        go_wp2_with fail
        refine planPostR_normal ⟨.inr (Gr.of hb5), hK _ _ ?_⟩
        clear hK K
        have hG5 : Gr tb w w5 := hG4.trans (Gr.of hb5)
        have ht5 := ht4'.out.below hb5 ht4'.out.lt
        have hR5 := Lib.hid (hR4.out.below hb5 hR4.out.lt)
        refine wpPlanR_call rfl (fun K hK => ?_)
        refine wpList_row_store rfl 31 _ _ rfl (E.map bv) rfl rfl hR5.out hEs.out (by rw [hEl]; rfl) hEo ?_
        intro w6 hW6 ho6
        refine wpList_end (planPostR_normal ⟨.inl (by first | trivial | simp), hK _ _ ?_⟩)
        clear hK K
        refine wpPlanR_nil ?_
        go_wp2_with fail
        exact bodyPost_ret (ret_blk rfl _ w6 (g := w.heap.size) rfl hW6.out (.array 16 5) arr_dig rfl hEs.out) rfl ⟨rfl, end_gr ht5 ho6 hG5 (Nat.le_refl _) htl.out⟩
      · have hcl : Hid (clm path leaf i n j = (nd (nx path (clm path leaf (i - k) (n - k) j).2) (clm path leaf (i - k) (n - k) j).1, (clm path leaf (i - k) (n - k) j).2 + 1)) := by show _ = _; rw [hk] at hik ⊢; exact clm_right path leaf j h2 hik
        rw [hcl.out]
        have hle := clm_le path leaf hl (n - k) (i - k) (n - k) j (Nat.le_refl _) (by omega)
        have I1 := Lib.hid (fun W hC ht => ih (i - k) (n - k) j W (by omega) (by omega) (by omega) (by omega) (by omega) hC ht)
        generalize clm path leaf (i - k) (n - k) j = R at I1 hle ⊢
        obtain ⟨D, m⟩ := R
        simp only at I1 hle ⊢
        have t2 : ¬ (i : Int) < (k : Int) := by omega
        have e1 : (i : Int) - (k : Int) = ((i - k : Nat) : Int) := by omega
        have e2 : (n : Int) - (k : Int) = ((n - k : Nat) : Int) := by omega
        have HX := Lib.hid (fun W (hC : Ckx W B0 lb rb nb pb tb (cl3 57 lb rb nb) 92 leaf path A c) (ht : Blk W tb [.int .i64 m] 3) => next_any path A c m tb pb B0 W hd hC.rds hC.ne.2.2.2.2.2.1 hC.ne.2.2.2.1.symm (by omega) ht hC.pth)
        have hxl := nx_len hd m
        generalize nx path m = X at HX hxl ⊢
        have HN := Lib.hid (fun W hT => node_any X D W hxl hle.2 hT)
        have hnl := nd_len X D
        generalize nd X D = E at HN hnl ⊢
        have hDl : (D.map bv).length = 16 := by rw [List.length_map, hle.2]
        have hDs := Lib.hid (size_dig16 _ hDl)
        have hDo := av_one D
        have hEl : (E.map bv).length = 16 := by rw [List.length_map, hnl]
        have hEs := Lib.hid (size_dig16 _ hEl)
        have hEo := av_one E
        unfold av at I1 HX HN ⊢
        clear hk hle hcl hC ht ih h hj h1 h2 hl hd
        go_enter Tryd.func57, Tryd.ntmps57
        go_wp2_with fail
        refine (HF.out _).mono ?_
        rintro e w1 ⟨rfl, hw1⟩
        subst hw1
        go_wp2_with fail
        refine (I1.out _ (hCa.out _) (hta.out _)).mono ?_
        rintro e w2 ⟨rfl, ht2, hg2⟩
        have hG2 : Gr tb w w2 := (hG1.out _).trans hg2
        have hR2 := Lib.hid (hR1.out.gr hg2 (Nat.ne_of_gt htl.out))
        have hC2 := Lib.hid ((hCa.out _).gr hg2)
        clear hg2 cr
        go_wp2_with (refine wpList_row_store rfl 31 _ _ rfl (D.map bv) rfl rfl (Blk.new w2 (bz 16) 31) hDs.out (by rw [hDl]; rfl) hDo ?_; intro w3 hW3 ho3)
        have hb3 : Below w2.heap.size w2 w3 := ((Below.refl _ _).alloc (Nat.le_refl _) _).trans (ho3.below (Nat.le_refl _))
        have ht3 := Lib.hid (ht2.below hb3 ht2.lt)
        have hG3 : Gr tb w w3 := hG2.trans (Gr.of hb3)
        have hR3 := Lib.hid (hR2.out.below hb3 hR2.out.lt)
        have hC3 := Lib.hid (hC2.out.gr (Gr.of hb3))
        have hW3' := Lib.hid hW3
        have hne3 : Hid (w2.heap.size ≠ tb) := by have := ht2.lt; show _ ≠ _; omega
        clear ho3 hb3 ht2 hG2 hR2 hC2 hW3
        have hd3 : Gr tb w3 w3.drew := Gr.of ((Below.refl _ _).drew)
        have cn : ∀ x : ROf (Gr tb) w3.drew, x.world.cell? ⟨nb, 0, none⟩ = some (cl2 72 tb pb) := fun x => (hC3.out.gr (hd3.trans x.rel)).nxt.cell rfl
        unfold cl2 at cn
        refine wp_region_planR (R := Gr tb) (Gr.refl tb) (fun _ _ _ h k => h.trans k) [4] [(true, 0), (true, 2), (false, 1), (false, 3), (false, 4)] (by decide) (by kernel_rfl) (by kernel_rfl) (by decide) (by intro c a d v w h; cases d <;> exact h) ?_
        change wpPlanR _ _ _ _ _ _ _ w3.drew
        refine wpPlanR_plain rfl (fun K hK => ?_)
        go_simp
        refine hK _ ?_
        clear hK K
        refine wpPlanR_runW rfl (by rfl) _ (fun x => load_run 31 _ rfl w2.heap.size 0 rfl (D.map bv) (.array 16 5) arr_dig rfl hDs.out x.world ((hW3'.out.gr (hd3.trans x.rel) hne3.out).range 0 _ (take_all0 _))) ?_
        refine wpPlanR_call rfl (fun K hK => ?_)
        go_wp2_with fail
        refine (HX.out _ (hC3.out.gr hd3) (ht3.out.drew)).mono ?_
        rintro e w4 ⟨rfl, ht4, hg4⟩
        go_wp2_with fail
        refine planPostR_normal ⟨.inr hg4, hK _ _ ?_⟩
        clear hK K
        have hG4 : Gr tb w w4 := (hG3.trans hd3).trans hg4
        have hC4 := Lib.hid (hC3.out.gr (hd3.trans hg4))
        have hR4 := Lib.hid (hR3.out.gr (hd3.trans hg4) (Nat.ne_of_gt htl.out))
        have ht4' := Lib.hid ht4
        refine wpPlanR_call rfl (fun K hK => ?_)
        go_wp2_with fail
        refine (HN.out _ hC4.out.tab).mono ?_
        rintro e w5 ⟨rfl, hb5⟩
        go_wp2_with fail
        refine planPostR_normal ⟨.inr (Gr.of hb5), hK _ _ ?_⟩
        clear hK K
        have hG5 : Gr tb w w5 := hG4.trans (Gr.of hb5)
        have ht5 := ht4'.out.below hb5 ht4'.out.lt
        have hR5 := Lib.hid (hR4.out.below hb5 hR4.out.lt)
        refine wpPlanR_call rfl (fun K hK => ?_)
        refine wpList_row_store rfl 31 _ _ rfl (E.map bv) rfl rfl hR5.out hEs.out (by rw [hEl]; rfl) hEo ?_
        intro w6 hW6 ho6
        refine wpList_end (planPostR_normal ⟨.inl (by first | trivial | simp), hK _ _ ?_⟩)
        clear hK K
        refine wpPlanR_nil ?_
        go_wp2_with fail
        exact bodyPost_ret (ret_blk rfl _ w6 (g := w.heap.size) rfl hW6.out (.array 16 5) arr_dig rfl hEs.out) rfl ⟨rfl, end_gr ht5 ho6 hG5 (Nat.le_refl _) htl.out⟩
    · have hn : (n : Int) = 1 := by omega
      have hcl : Hid (clm path leaf i n j = (leaf, j)) := clm_one path leaf i j (by omega)
      rw [hcl.out]
      have hDl : (leaf.map bv).length = 16 := by rw [List.length_map, hl]
      have hDs := Lib.hid (size_dig16 _ hDl)
      have hDo := av_one leaf
      have hla := Lib.hid (fun o => (hCa.out o).leaf)
      unfold av
      clear hcl ih hC
      go_enter Tryd.func57, Tryd.ntmps57
      go_wp2_with (first | (refine wpList_blk_load rfl 31 _ rfl 0 rfl (hla.out _) (leaf.map bv) (take_all0 _) (.array 16 5) arr_dig rfl hDs.out ?_) | (refine wpList_row_store rfl 31 _ _ rfl (leaf.map bv) rfl rfl hR1.out hDs.out (by rw [hDl]; rfl) hDo ?_; intro w6 hW6 ho6))
      exact bodyPost_ret (ret_blk rfl _ w6 (g := w.heap.size) rfl hW6.out (.array 16 5) arr_dig rfl hDs.out) rfl ⟨rfl, end_gr (hta.out _) ho6 (hG1.out _) (Nat.le_refl _) htl.out⟩
end Go.Proofs.YtlgokfgiemaklaaDoor

namespace Go.Proofs.YtlgokfgiemaklaaDoor
set_option linter.unusedVariables false
set_option linter.unusedSimpArgs false
open Go.RowKit

theorem size_bool : (Tryd.prog.info? 4).map (·.size) = some 1 := by kernel_rfl
theorem one_bool (r : Bool) : ∀ u ∈ (Value.bool r).cells.toList, u.oneCell' = true := by
  intro u hu
  have hu' : u ∈ [Value.bool r] := hu
  simp only [List.mem_singleton] at hu'
  subst hu'
  rfl

set_option maxRecDepth 100000 in
set_option maxHeartbeats 1000000 in
theorem follow1_any (h : Bool) (m n : Nat) (r : Bool) (A : Option Addr) (c hb tb pb : Nat) (u : FrameMode) (w : World) (hr : (h && ((m : Int) == (n : Int))) = r) (b1 : Blk w hb [.bool h] 4) (b2 : Blk w tb [.int .i64 m] 3) (b3 : Blk w pb [.slice A n c] 22) :
    CallsD Tryd.prog 71 #[.pointer (some ⟨hb, 0, none⟩), .pointer (some ⟨tb, 0, none⟩), .pointer (some ⟨pb, 0, none⟩)] u w fun e u' w' => u' = u ∧ (e = .returned (.tuple #[]) ∧ Blk w' hb [.bool r] 4 ∧ Only hb w w') := by
  have c1 : w.cell? ⟨hb, 0, none⟩ = some (.bool h) := b1.cell rfl
  have c2 : w.cell? ⟨tb, 0, none⟩ = some (.int .i64 m) := b2.cell rfl
  have c3 : w.cell? ⟨pb, 0, none⟩ = some (.slice A n c) := b3.cell rfl
  have b1' := Lib.hid b1
  clear b1 b2 b3
  cases h with
  | true =>
    obtain ⟨q, hq⟩ : ∃ q, ((m : Int) == (n : Int)) = q := ⟨_, rfl⟩
    have hrq : r = q := by rw [← hr, ← hq]; rfl
    subst hrq
    clear hr
    go_enter_d Tryd.func71, Tryd.ntmps71
    go_wp2_with (refine wpList_blk_store rfl 4 _ _ rfl 0 (.bool r) rfl rfl b1'.out size_bool (Nat.le_of_eq rfl) (one_bool _) ?_; intro w2 hw2 ho2)
    exact bodyPost_end (results_none rfl _ _ _) rfl ⟨rfl, hw2.out, ho2⟩
  | false =>
    have hrq : r = false := by rw [← hr]; rfl
    subst hrq
    clear hr
    go_enter_d Tryd.func71, Tryd.ntmps71
    go_wp2_with (refine wpList_blk_store rfl 4 _ _ rfl 0 (.bool false) rfl rfl b1'.out size_bool (Nat.le_of_eq rfl) (one_bool _) ?_; intro w2 hw2 ho2)
    exact bodyPost_end (results_none rfl _ _ _) rfl ⟨rfl, hw2.out, ho2⟩

set_option maxRecDepth 100000 in
set_option maxHeartbeats 2000000 in
theorem follow_of (f n c m : Nat) (A pa pb' pc pd : Option Addr) (r q : Bool) (w : World) (hcf : ∀ (args : Array Value) (W : World), (callFunc f args).run Tryd.prog W = .ok (.enter f args) W) (hq : (r && ((m : Int) == (n : Int))) = q)
    (HG : ∀ W, Below w.heap.size w W → w.heap.size + 3 ≤ W.heap.size → Blk W (w.heap.size + 2) [.int .i64 0] 3 → Blk W w.heap.size [.slice A n c] 22 →
      Calls Tryd.prog f #[cl2 72 (w.heap.size + 2) w.heap.size, .pointer pa, .pointer pb', .pointer pc, .pointer pd] W fun e W' => e = .returned (.bool r) ∧ Blk W' (w.heap.size + 2) [.int .i64 m] 3 ∧ Gr (w.heap.size + 2) W W') :
    Calls Tryd.prog 46 #[.slice A n c, .func (.func f) #[] #[.pointer pa, .pointer pb', .pointer pc, .pointer pd]] w fun e w' => e = .returned (.bool q) ∧ Below w.heap.size w w' := by
  obtain ⟨W3, hW3⟩ : ∃ W3, W3 = ((w.alloc (.cells #[.slice A n c] 22)).alloc (.cells #[.bool false] 4)).alloc (.cells #[.int .i64 0] 3) := ⟨_, rfl⟩
  have hs3 : W3.heap.size = w.heap.size + 3 := by rw [hW3]; simp
  have hB3 : Below w.heap.size w W3 := by rw [hW3]; exact (((Below.refl _ _).alloc (Nat.le_refl _) _).alloc (by simp) _).alloc (by simp; omega) _
  have hP3 : Blk W3 w.heap.size [.slice A n c] 22 := by rw [hW3]; exact ((Blk.new _ [_] _).alloc _).alloc _
  have hH3 : Hid (Blk W3 (w.heap.size + 1) [.bool false] 4) := by show Blk _ _ _ _; rw [hW3]; exact ((Blk.new _ [_] _).alloc _).at (by simp)
  have hT3 : Blk W3 (w.heap.size + 2) [.int .i64 0] 3 := by rw [hW3]; exact (Blk.new _ [_] _).at (by simp)
  have HC := Lib.hid (HG W3 hB3 (by omega) hT3 hP3)
  have hP3' := Lib.hid hP3
  have hB3' := Lib.hid hB3
  have hW3' := Lib.hid hW3
  have hq' := Lib.hid hq
  have hmf : ∀ (fn : Fn) (first cap : Array Value) (w : World), (Instr.makeFunc fn first cap).run Tryd.prog w = .ok (.func fn first cap) w := fun _ _ _ _ => rfl
  clear HG hs3 hB3 hP3 hT3 hW3 hq
  unfold cl2 at HC
  go_enter_defers Tryd.func46, Tryd.ntmps46
  go_wp2_with fail
  generalize hg : ((w.alloc _).alloc _).alloc _ = Wg
  have hgW : W3 = Wg := by rw [← hg, hW3'.out]
  clear hg hW3'
  subst hgW
  refine HC.out.mono ?_
  rintro e w4 ⟨rfl, ht4, hg4⟩
  have hP4 := Lib.hid (hP3'.out.gr hg4 (by omega))
  have hH4 := hH3.out.gr hg4 (by omega)
  have ht4' := Lib.hid ht4
  have hB4 := Lib.hid (hB3'.out.trans (hg4.below (by omega) hB3'.out.size))
  clear ht4
  go_wp2_with (refine wpList_blk_store rfl 4 _ _ rfl 0 (.bool r) rfl rfl hH4 size_bool (Nat.le_of_eq rfl) (one_bool _) ?_; intro w5 hw5 ho5)
  have hT5 := ht4'.out.only ho5 (by omega)
  have hP5 := hP4.out.only ho5 (by omega)
  have hB5 : Below w.heap.size w w5 := hB4.out.trans (ho5.below (by omega))
  have hH5 : Blk w5 (w.heap.size + 1) [.bool r] 4 := hw5.out
  simp only [Act.put]
  refine leaves_cons (f := 71) (args := #[.pointer (some ⟨w.heap.size + 1, 0, none⟩), .pointer (some ⟨w.heap.size + 1 + 1, 0, none⟩), .pointer (some ⟨w.heap.size, 0, none⟩)]) (by simp) (by simp [go_sem]) ?_
  refine (follow1_any r m n q A c (w.heap.size + 1) (w.heap.size + 1 + 1) w.heap.size _ w5 hq'.out hH5 hT5 hP5).mono ?_
  rintro e u' w6 ⟨rfl, rfl, hw6, ho6⟩
  have c6 : w6.cell? ⟨w.heap.size + 1, 0, none⟩ = some (.bool q) := hw6.cell rfl
  have hB6 : Below w.heap.size w w6 := hB5.trans (ho6.below (by omega))
  clear HC hP3' hP4 hT5 hP5 hH5 hw6 ho6 hw5 ho5 ht4' hq'
  simp [Leaves, settle, results, Tryd.results46, go_sem, c6, hB6]
end Go.Proofs.YtlgokfgiemaklaaDoor

namespace Go.Proofs.YtlgokfgiemaklaaDoor
set_option linter.unusedVariables false
set_option linter.unusedSimpArgs false
open Go.RowKit

set_option maxRecDepth 100000 in
set_option maxHeartbeats 4000000 in
theorem chi1_any (B0 la ia na ra pb tb : Nat) (leaf root : List UInt8) (path : List (List UInt8)) (A : Option Addr) (c i n : Nat) (r : Bool) (w : World) (hl : leaf.length = 16) (hrl : root.length = 16) (hd : D16 path) (h1 : 1 ≤ n) (h47 : n ≤ 140737488355328) (hi : i < n)
    (hr : ((clm path leaf i n 0).1 == root) = r) (b1 : Blk w la (leaf.map bv) 31) (b2 : Blk w ia [.int .i64 i] 3) (b3 : Blk w na [.int .i64 n] 3) (b4 : Blk w ra (root.map bv) 31) (b5 : Blk w pb [.slice A path.length c] 22) (b6 : Blk w tb [.int .i64 0] 3)
    (hrd : Rds w B0 A ((flat path).map bv)) (ht : Tab 2 w) (hg : 2 < B0) (hB : B0 ≤ tb) (n1 : la ≠ tb) (n2 : ia ≠ tb) (n3 : na ≠ tb) (n4 : ra ≠ tb) (n5 : pb ≠ tb) :
    Calls Tryd.prog 56 #[cl2 72 tb pb, .pointer (some ⟨la, 0, none⟩), .pointer (some ⟨ia, 0, none⟩), .pointer (some ⟨na, 0, none⟩), .pointer (some ⟨ra, 0, none⟩)] w fun e w' => e = .returned (.bool r) ∧ Blk w' tb [.int .i64 ((clm path leaf i n 0).2 : Nat)] 3 ∧ Gr tb w w' := by
  obtain ⟨W2, hW2⟩ : ∃ W2, W2 = (w.alloc (.cells #[cl2 72 tb pb] 71)).alloc (.cells #[.nilFunc] 92) := ⟨_, rfl⟩
  have htl := b6.lt
  have hs2 : W2.heap.size = w.heap.size + 2 := by rw [hW2]; simp
  have hb2 : Below w.heap.size w W2 := by rw [hW2]; exact ((Below.refl _ _).alloc (Nat.le_refl _) _).alloc (by simp) _
  have hN2 : Blk W2 w.heap.size [cl2 72 tb pb] 71 := by rw [hW2]; exact (Blk.new _ [_] _).alloc _
  have hF2 : Blk W2 (w.heap.size + 1) [.nilFunc] 92 := by rw [hW2]; exact (Blk.new _ [_] _).at (by simp)
  have hsf : (Tryd.prog.info? 92).map (·.size) = some 1 := by kernel_rfl
  obtain ⟨F, hF⟩ : ∃ F, F = cl3 57 la (w.heap.size + 1) w.heap.size := ⟨_, rfl⟩
  have hone : ∀ u ∈ F.cells.toList, u.oneCell' = true := by
    intro u hu
    rw [hF] at hu
    have hu' : u ∈ [cl3 57 la (w.heap.size + 1) w.heap.size] := hu
    simp only [List.mem_singleton] at hu'
    subst hu'
    rfl
  have H3 : Hid (∀ W3, Hid (Blk W3 (w.heap.size + 1) [F] 92) → Only (w.heap.size + 1) W2 W3 → Gr tb w W3 ∧ Ckx W3 B0 la (w.heap.size + 1) w.heap.size pb tb (cl3 57 la (w.heap.size + 1) w.heap.size) 92 leaf path A c ∧ Blk W3 ia [.int .i64 i] 3 ∧ Blk W3 na [.int .i64 n] 3 ∧ Blk W3 ra (root.map bv) 31 ∧ Blk W3 tb [.int .i64 0] 3) := fun W3 hf ho => by
    have hb3 : Below w.heap.size w W3 := hb2.trans (ho.below (Nat.le_succ _))
    refine ⟨Gr.of hb3, ⟨b1.below hb3 b1.lt, by rw [← hF]; exact hf.out, hN2.only ho (by omega), b5.below hb3 b5.lt, hrd.below (hb3.mono (by omega)), ht.on hb3, n1, by omega, by omega, n5, hg, hB, by have := hb3.size; omega⟩, b2.below hb3 b2.lt, b3.below hb3 b3.lt, b4.below hb3 b4.lt, b6.below hb3 b6.lt⟩
  have hle := clm_le path leaf hl n i n 0 (Nat.le_refl _) h1
  have HC := Lib.hid (fun W hC ht => climb_up B0 la (w.heap.size + 1) w.heap.size pb tb leaf path A c hl hd n i n 0 W (Nat.le_refl _) h1 h47 hi (by omega) hC ht)
  generalize clm path leaf i n 0 = R at HC hle hr ⊢
  obtain ⟨D, m⟩ := R
  simp only at HC hle hr ⊢
  have hDl : (D.map bv).length = 16 := by rw [List.length_map, hle.2]
  have hDs := Lib.hid (size_dig16 _ hDl)
  have hRl : (root.map bv).length = 16 := by rw [List.length_map, hrl]
  have hRs := Lib.hid (size_dig16 _ hRl)
  have hr' := Lib.hid hr
  have hle' := Lib.hid hle
  have hW2' := Lib.hid hW2
  have hF' := Lib.hid hF
  have hF2' := Lib.hid hF2
  have hn2' := Lib.hid (And.intro n2 (And.intro n3 n4))
  have hmf : ∀ (fn : Fn) (first cap : Array Value) (w : World), (Instr.makeFunc fn first cap).run Tryd.prog w = .ok (.func fn first cap) w := fun _ _ _ _ => rfl
  unfold av at HC
  clear hr hle hW2 hF b1 b2 b3 b4 b5 b6 hrd ht hg hB n1 n2 n3 n4 n5 hs2 hb2 hN2 hF2 htl hi h1 h47 hl
  unfold cl2 at hW2' ⊢
  have hF2c := hF2'.out
  rw [hW2'.out] at hF2c
  have hF2d := Lib.hid hF2c
  clear hF2c hF2'
  rw [hF'.out] at hone
  unfold cl3 at hone
  go_enter Tryd.func56, Tryd.ntmps56
  go_wp2_with (refine wpList_blk_store rfl 92 _ _ rfl 0 _ rfl rfl hF2d.out hsf (Nat.le_of_eq rfl) hone ?_; intro W3 hf3 ho3)
  rw [← hW2'.out] at ho3
  have hf3' : Hid (Blk W3 (w.heap.size + 1) [F] 92) := by show Blk _ _ _ _; rw [hF'.out]; exact hf3.out
  obtain ⟨hG3, hC3, q2, q3, q4, q6⟩ := H3.out W3 hf3' ho3
  have hd3 : Gr tb W3 W3.drew := Gr.of ((Below.refl _ _).drew)
  have hC3' := Lib.hid hC3
  have q2' := Lib.hid q2
  have q3' := Lib.hid q3
  have q4' := Lib.hid q4
  have q6' := Lib.hid q6
  have cr : ∀ x : ROf (Gr tb) W3.drew, x.world.cell? ⟨w.heap.size + 1, 0, none⟩ = some (cl3 57 la (w.heap.size + 1) w.heap.size) := fun x => (hC3'.out.gr (hd3.trans x.rel)).fn.cell rfl
  have ci : ∀ x : ROf (Gr tb) W3.drew, x.world.cell? ⟨ia, 0, none⟩ = some (.int .i64 i) := fun x => (q2'.out.gr (hd3.trans x.rel) hn2'.out.1).cell rfl
  have cnn : ∀ x : ROf (Gr tb) W3.drew, x.world.cell? ⟨na, 0, none⟩ = some (.int .i64 n) := fun x => (q3'.out.gr (hd3.trans x.rel) hn2'.out.2.1).cell rfl
  unfold cl3 at cr
  clear hC3 q2 q3 q4 q6 hf3 hf3' ho3 H3
  refine wp_region_planR (R := Gr tb) (Gr.refl tb) (fun _ _ _ h k => h.trans k) [] [(true, 0), (true, 1), (true, 2), (true, 4), (false, 3), (true, 5), (true, 6)] (by decide) (by kernel_rfl) (by kernel_rfl) (by decide) (by intro c a d v w h; cases d <;> exact h) ?_
  change wpPlanR _ _ _ _ _ _ _ W3.drew
  iterate 3 (refine wpPlanR_plain rfl (fun K hK => ?_); go_simp; refine hK _ ?_; clear hK K)
  refine wpPlanR_runW rfl (by rfl) _ (fun x => load_run 31 _ rfl ra 0 rfl (root.map bv) (.array 16 5) arr_dig rfl hRs.out x.world ((q4'.out.gr (hd3.trans x.rel) hn2'.out.2.2).range 0 _ (take_all0 _))) ?_
  refine wpPlanR_call rfl (fun K hK => ?_)
  go_wp2_with fail
  refine (HC.out _ (hC3'.out.gr hd3) q6'.out.drew).mono ?_
  rintro e w4 ⟨rfl, ht4, hg4⟩
  go_wp2_with fail
  refine planPostR_normal ⟨.inr hg4, hK _ _ ?_⟩
  clear hK K
  have hG4 : Gr tb w w4 := (hG3.trans hd3).trans hg4
  refine wpPlanR_runW rfl (by rfl) _ (fun x => eql_run 31 _ _ _ rfl 16 arr_dig (by kernel_rfl) D root hle'.out.2 hrl rfl rfl r hr'.out x.world) ?_
  refine wpPlanR_plain rfl (fun K hK => ?_)
  go_simp
  refine hK _ ?_
  clear hK K
  refine wpPlanR_nil ?_
  go_wp2_with fail
  go_ret
  exact ⟨rfl, ht4, hG4⟩
end Go.Proofs.YtlgokfgiemaklaaDoor

namespace Go.Proofs.YtlgokfgiemaklaaDoor
set_option linter.unusedVariables false
set_option linter.unusedSimpArgs false
open Go.RowKit

set_option maxRecDepth 100000 in
theorem hcf_chi (args : Array Value) (W : World) : (callFunc 56 args).run Tryd.prog W = .ok (.enter 56 args) W := by
  first
    | rfl
    | (with_unfolding_all rfl)
    | kernel_rfl
    | (simp [callFunc, go_sem]; done)
    | (unfold callFunc; go_simp; done)

theorem below4 (w : World) (a b c d : Obj) : Below w.heap.size w ((((w.alloc a).alloc b).alloc c).alloc d) :=
  ((((Below.refl _ _).alloc (Nat.le_refl _) _).alloc (by simp) _).alloc (by simp; omega) _).alloc (by simp; omega) _

set_option maxRecDepth 100000 in
set_option maxHeartbeats 1000000 in
theorem checkInclusion_no (leaf root : List UInt8) (k c : Nat) (A : Option Addr) (i n : Int) (w : World) (hi : n < 1 ∨ 1099511627776 < n ∨ i < 0 ∨ n ≤ i) :
    Calls Tryd.prog 29 #[av leaf, .int .i64 i, .int .i64 n, .slice A k c, av root] w fun e w' => e = .returned (.bool false) ∧ Below w.heap.size w w' := by
  unfold av
  generalize (leaf.map bv).toArray = lv
  generalize (root.map bv).toArray = rv
  have HB := Lib.hid (below4 w)
  by_cases t0 : n < 1
  · clear hi
    go_enter Tryd.func29, Tryd.ntmps29
    go_wp2_with fail
    go_ret
    exact ⟨rfl, HB.out _ _ _ _⟩
  by_cases t1 : 1099511627776 < n
  · clear hi
    go_enter Tryd.func29, Tryd.ntmps29
    go_wp2_with fail
    go_ret
    exact ⟨rfl, HB.out _ _ _ _⟩
  by_cases t2 : i < 0
  · clear hi
    go_enter Tryd.func29, Tryd.ntmps29
    go_wp2_with fail
    go_ret
    exact ⟨rfl, HB.out _ _ _ _⟩
  have t3 : n ≤ i := by omega
  clear hi
  go_enter Tryd.func29, Tryd.ntmps29
  go_wp2_with fail
  go_ret
  exact ⟨rfl, HB.out _ _ _ _⟩

set_option maxRecDepth 100000 in
set_option maxHeartbeats 4000000 in
theorem checkInclusion_ok (leaf root : List UInt8) (path : List (List UInt8)) (c i n : Nat) (A : Option Addr) (r q : Bool) (w : World) (hl : leaf.length = 16) (hrl : root.length = 16) (hd : D16 path) (h1 : 1 ≤ n) (h40 : n ≤ 1099511627776) (hi : i < n)
    (hr : ((clm path leaf i n 0).1 == root) = r) (hq : (r && (((clm path leaf i n 0).2 : Int) == (path.length : Int))) = q) (hA : Dg w A path) (ht : Tab 2 w) :
    Calls Tryd.prog 29 #[av leaf, .int .i64 i, .int .i64 n, .slice A path.length c, av root] w fun e w' => e = .returned (.bool q) ∧ Below w.heap.size w w' := by
  unfold av
  obtain ⟨lv, hlv⟩ : ∃ lv, lv = leaf.map bv := ⟨_, rfl⟩
  obtain ⟨rv, hrv⟩ : ∃ rv, rv = root.map bv := ⟨_, rfl⟩
  rw [← hlv, ← hrv]
  obtain ⟨W4, hW4⟩ : ∃ W4, W4 = (((w.alloc (.cells lv.toArray 31)).alloc (.cells #[.int .i64 i] 3)).alloc (.cells #[.int .i64 n] 3)).alloc (.cells rv.toArray 31) := ⟨_, rfl⟩
  have hb4 : Below w.heap.size w W4 := by rw [hW4]; exact below4 _ _ _ _ _
  have hs4 : W4.heap.size = w.heap.size + 4 := by rw [hW4]; simp
  have b1 : Blk W4 w.heap.size (leaf.map bv) 31 := by rw [hW4, hlv]; exact (((Blk.new _ _ _).alloc _).alloc _).alloc _
  have b2 : Blk W4 (w.heap.size + 1) [.int .i64 i] 3 := by rw [hW4]; exact (((Blk.new _ [_] _).at (by simp)).alloc _).alloc _
  have b3 : Blk W4 (w.heap.size + 2) [.int .i64 n] 3 := by rw [hW4]; exact ((Blk.new _ [_] _).at (by simp)).alloc _
  have b4 : Blk W4 (w.heap.size + 3) (root.map bv) 31 := by rw [hW4, hrv]; exact (Blk.new _ _ _).at (by simp)
  have hA4 := hA.below hb4
  have ht4 := ht.on hb4
  have HC := Lib.hid (follow_of 56 path.length c (clm path leaf i n 0).2 A (some ⟨w.heap.size, 0, none⟩) (some ⟨w.heap.size + 1, 0, none⟩) (some ⟨w.heap.size + 2, 0, none⟩) (some ⟨w.heap.size + 3, 0, none⟩) r q W4 hcf_chi hq (fun W hB hs hT hP => by
    have hBw : Below w.heap.size W4 W := hB.mono (by omega)
    exact chi1_any w.heap.size w.heap.size (w.heap.size + 1) (w.heap.size + 2) (w.heap.size + 3) W4.heap.size (W4.heap.size + 2) leaf root path A c i n r W hl hrl hd h1 (by omega) hi hr (b1.below hB b1.lt) (b2.below hB b2.lt) (b3.below hB b3.lt) (b4.below hB b4.lt) hP hT (Rds.below hA4 hBw) (ht4.on hB) ht.1 (by omega) (by omega) (by omega) (by omega) (by omega) (by omega)))
  have t0 : ¬ (n : Int) < 1 := by omega
  have t1 : ¬ (1099511627776 : Int) < (n : Int) := by omega
  have t2 : ¬ (i : Int) < 0 := by omega
  have t3 : ¬ (n : Int) ≤ (i : Int) := by omega
  have hW4' := Lib.hid hW4
  have hb4' := Lib.hid hb4
  have hs4' := Lib.hid hs4
  have hmf : ∀ (fn : Fn) (first cap : Array Value) (w : World), (Instr.makeFunc fn first cap).run Tryd.prog w = .ok (.func fn first cap) w := fun _ _ _ _ => rfl
  clear hW4 hb4 hs4 b1 b2 b3 b4 hA4 ht4 hr hq hl hrl hd h1 h40 hi hA ht hlv hrv
  go_enter Tryd.func29, Tryd.ntmps29
  go_wp2_with fail
  generalize hg : (((w.alloc _).alloc _).alloc _).alloc _ = Wg
  have hgW : W4 = Wg := by rw [← hg, hW4'.out]
  clear hg hW4'
  subst hgW
  refine HC.out.mono ?_
  rintro e w5 ⟨rfl, hb5⟩
  go_wp2_with fail
  go_ret
  exact ⟨rfl, hb4'.out.trans (hb5.mono (by rw [hs4'.out]; omega))⟩
end Go.Proofs.YtlgokfgiemaklaaDoor
