/-
  Contracts of stage 3: CheckConsistency's closure, which leads from a path to both roots. Contracts of stage 3: CheckConsistency's closure, a step to the left. Contracts of stage 3: CheckConsistency's closure, a step to the right. Contracts of stage 3: CheckConsistency's closure, for all sizes. Contracts of stage 3: what CheckConsistency gives to follow. Contracts of stage 3: CheckConsistency itself. Contracts of stage 3: CheckConsistency from nothing.
-/
import Derived.Test.YtlgokfgiemaklaaDoorNck
namespace Go.Proofs.YtlgokfgiemaklaaDoor
set_option linter.unusedVariables false
set_option linter.unusedSimpArgs false
open Go.RowKit

/-- The two roots that a path leads to, and the place in the path behind it. -/
def csm (path : List (List UInt8)) (old : List UInt8) (m n : Nat) (mark : Bool) (j : Nat) : (List UInt8 × List UInt8) × Nat :=
  if h : n ≤ 1 ∨ n ≤ m then (if mark then ((old, old), j) else ((nx path j, nx path j), j + 1))
  else if m ≤ Mk.ksz n then (((csm path old m (Mk.ksz n) mark j).1.1, nd (csm path old m (Mk.ksz n) mark j).1.2 (nx path (csm path old m (Mk.ksz n) mark j).2)), (csm path old m (Mk.ksz n) mark j).2 + 1)
  else ((nd (nx path (csm path old (m - Mk.ksz n) (n - Mk.ksz n) false j).2) (csm path old (m - Mk.ksz n) (n - Mk.ksz n) false j).1.1, nd (nx path (csm path old (m - Mk.ksz n) (n - Mk.ksz n) false j).2) (csm path old (m - Mk.ksz n) (n - Mk.ksz n) false j).1.2), (csm path old (m - Mk.ksz n) (n - Mk.ksz n) false j).2 + 1)
termination_by n
decreasing_by
  all_goals
    have h1 := Mk.ksz_lt (show 2 ≤ n by omega)
    have h2 := Mk.ksz_pos n
    omega
theorem csm_true (path : List (List UInt8)) (old : List UInt8) (n j : Nat) : csm path old n n true j = ((old, old), j) := by rw [csm, dif_pos (.inr (Nat.le_refl _)), if_pos rfl]
theorem csm_false (path : List (List UInt8)) (old : List UInt8) (n j : Nat) : csm path old n n false j = ((nx path j, nx path j), j + 1) := by rw [csm, dif_pos (.inr (Nat.le_refl _)), if_neg (by simp)]
theorem csm_left (path : List (List UInt8)) (old : List UInt8) {m n : Nat} (mark : Bool) (j : Nat) (h : 2 ≤ n) (hm : m < n) (hk : m ≤ Mk.ksz n) :
    csm path old m n mark j = (((csm path old m (Mk.ksz n) mark j).1.1, nd (csm path old m (Mk.ksz n) mark j).1.2 (nx path (csm path old m (Mk.ksz n) mark j).2)), (csm path old m (Mk.ksz n) mark j).2 + 1) := by
  rw [csm, dif_neg (by omega), if_pos hk]
theorem csm_right (path : List (List UInt8)) (old : List UInt8) {m n : Nat} (mark : Bool) (j : Nat) (h : 2 ≤ n) (hm : m < n) (hk : ¬ m ≤ Mk.ksz n) :
    csm path old m n mark j = ((nd (nx path (csm path old (m - Mk.ksz n) (n - Mk.ksz n) false j).2) (csm path old (m - Mk.ksz n) (n - Mk.ksz n) false j).1.1, nd (nx path (csm path old (m - Mk.ksz n) (n - Mk.ksz n) false j).2) (csm path old (m - Mk.ksz n) (n - Mk.ksz n) false j).1.2), (csm path old (m - Mk.ksz n) (n - Mk.ksz n) false j).2 + 1) := by
  rw [csm, dif_neg (by omega), if_neg hk]
theorem csm_le (path : List (List UInt8)) (old : List UInt8) (ho : old.length = 16) (hd : D16 path) (N : Nat) : ∀ (m n : Nat) (mark : Bool) (j : Nat), n ≤ N → 1 ≤ m → m ≤ n → (csm path old m n mark j).2 ≤ j + n ∧ (csm path old m n mark j).1.1.length = 16 ∧ (csm path old m n mark j).1.2.length = 16 := by
  induction N with
  | zero => intro m n mark j h h1 h2; omega
  | succ N ih =>
    intro m n mark j h h1 h2
    by_cases h3 : m = n
    · subst h3
      cases mark with
      | true => rw [csm_true]; exact ⟨by simp, ho, ho⟩
      | false => rw [csm_false]; exact ⟨by simp only; omega, nx_len hd j, nx_len hd j⟩
    · have a := Mk.ksz_lt (show 2 ≤ n by omega)
      have b := Mk.ksz_pos n
      by_cases hk : m ≤ Mk.ksz n
      · have := ih m (Mk.ksz n) mark j (by omega) (by omega) hk
        rw [csm_left path old mark j (by omega) (by omega) hk]
        exact ⟨by simp only; omega, this.2.1, nd_len _ _⟩
      · have := ih (m - Mk.ksz n) (n - Mk.ksz n) false j (by omega) (by omega) (by omega)
        rw [csm_right path old mark j (by omega) (by omega) hk]
        exact ⟨by simp only; omega, nd_len _ _, nd_len _ _⟩

/-- Two results that lie in blocks of the call's own. -/
theorem ret_blk2 {P : Program} {fn : Func} {p q : Tmp} {ty : TypeId} (hr : fn.results = #[.cell p ty, .cell q ty]) (tmps : Array Value) (w : World) {g h : Nat} {L M : List Value} {t : TypeId} (hp : tmps.getD p undef = .pointer (some ⟨g, 0, none⟩)) (hq : tmps.getD q undef = .pointer (some ⟨h, 0, none⟩)) (hb : Blk w g L t) (hc : Blk w h M t)
    (d : TypeDesc) (hu : P.underlying ty = some d) (hd : d.isRow = true) (hi : (P.info? ty).map (·.size) = some L.length) (hj : (P.info? ty).map (·.size) = some M.length) : (results fn tmps).run P w = .ok (.tuple #[.agg L.toArray, .agg M.toArray]) w := by
  have hv := run_loadVar_mid (P := P) w g 0 ty L d (hb.range 0 L (by simp)) hu hd hi
  have hv' := run_loadVar_mid (P := P) w h 0 ty M d (hc.range 0 M (by simp)) hu hd hj
  have hp' : tmps[p]?.getD undef = .pointer (some ⟨g, 0, none⟩) := by simpa using hp
  have hq' : tmps[q]?.getD undef = .pointer (some ⟨h, 0, none⟩) := by simpa using hq
  simp [results, hr, hp', hq', asAddr, hv, hv']

/-- What a walk of the closure ends with. -/
theorem end_gr2 {tb g h : Nat} {w W2 W3 W4 : World} {v : Value} {ty : TypeId} (h2 : Blk W2 tb [v] ty) (ho3 : Only g W2 W3) (ho4 : Only h W3 W4) (hg : Gr tb w W2) (hge : w.heap.size ≤ g) (hhe : w.heap.size ≤ h) (hlt : tb < w.heap.size) : Blk W4 tb [v] ty ∧ Gr tb w W4 := by
  have a := end_gr h2 ho3 hg hge hlt
  exact end_gr a.1 ho4 a.2 hhe hlt

/-- The closure's own three blocks, when it has set one. -/
theorem own3 {tb : Nat} (w : World) (v : Value) (ht : Blk w tb [v] 3) (o2 : Obj) (W3 : World)
    (ho : Only (w.heap.size + 1 + 1) (((w.alloc (.cells (bz 16).toArray 31)).alloc (.cells (bz 16).toArray 31)).alloc o2) W3) :
    Blk W3 w.heap.size (bz 16) 31 ∧ Blk W3 (w.heap.size + 1) (bz 16) 31 ∧ Blk W3 tb [v] 3 ∧ Gr tb w W3 := by
  have hb : Below w.heap.size w (((w.alloc (.cells (bz 16).toArray 31)).alloc (.cells (bz 16).toArray 31)).alloc o2) := (((Below.refl _ _).alloc (Nat.le_refl _) _).alloc (by simp) _).alloc (by simp; omega) _
  have hbw : Below w.heap.size w W3 := hb.trans (ho.below (by omega))
  exact ⟨(((Blk.new w _ _).alloc _).alloc _).only ho (by omega), (((Blk.new _ _ _).at (by simp)).alloc _).only ho (by omega), ht.below hbw ht.lt, Gr.of hbw⟩

/-- A block keeps what it holds. -/
def Kp (g : Nat) (L : List Value) (ty : TypeId) (a b : World) : Prop := Blk a g L ty → Blk b g L ty
instance (g : Nat) (L : List Value) (ty : TypeId) (w : World) : Nonempty (ROf (Kp g L ty) w) := ⟨⟨w, fun h => h⟩⟩

set_option maxRecDepth 100000 in
set_option maxHeartbeats 4000000 in
theorem rootsOf_true (B0 lb rb nb pb tb : Nat) (old : List UInt8) (path : List (List UInt8)) (A : Option Addr) (c n j : Nat) (w : World) (hl : old.length = 16) (hC : Ckx w B0 lb rb nb pb tb (cl3 59 lb nb rb) 93 old path A c) (ht : Blk w tb [.int .i64 j] 3) :
    Calls Tryd.prog 59 #[.int .i64 n, .int .i64 n, .bool true, .pointer (some ⟨lb, 0, none⟩), .pointer (some ⟨nb, 0, none⟩), .pointer (some ⟨rb, 0, none⟩)] w fun e w' => e = .returned (.tuple #[av old, av old]) ∧ Blk w' tb [.int .i64 j] 3 ∧ Gr tb w w' := by
  have hlb : Hid (∀ o o', Blk ((w.alloc o).alloc o') lb (old.map bv) 31) := fun o o' => (hC.leaf.alloc o).alloc o'
  have hR : Hid (∀ o o', Blk (((w.alloc o).alloc o').alloc (.cells (bz 16).toArray 31)) (w.heap.size + 1 + 1) (bz 16) 31) := fun o o' => (Blk.new _ _ _).at (by simp)
  have HO := Lib.hid (own3 w _ ht)
  have htl := Lib.hid ht.lt
  have hDl : (old.map bv).length = 16 := by rw [List.length_map, hl]
  have hDs := Lib.hid (size_dig16 _ hDl)
  have hDo := av_one old
  unfold av
  clear hC ht hl
  go_enter Tryd.func59, Tryd.ntmps59
  go_wp2_with (first | (refine wpList_blk_load rfl 31 _ rfl 0 rfl (hlb.out _ _) (old.map bv) (take_all0 _) (.array 16 5) arr_dig rfl hDs.out ?_) | (refine wpList_row_store rfl 31 _ _ rfl (old.map bv) rfl rfl (hR.out _ _) hDs.out (by rw [hDl]; rfl) hDo ?_; intro w3 hW3 ho3))
  obtain ⟨q1, q2, q3, q4⟩ := HO.out _ w3 ho3
  have q1' := Lib.hid q1
  have q2' := Lib.hid q2
  have q3' := Lib.hid q3
  have q4' := Lib.hid q4
  have hW3' := Lib.hid hW3.out
  clear q1 q2 q3 q4 ho3 HO hlb hR
  refine wp_region_planR (R := Kp (w.heap.size + 1 + 1) (old.map bv) 31) (fun _ => id) (fun _ _ _ h k z => k (h z)) [] [(true, 0), (true, 1), (false, 2), (false, 3)] (by decide) (by kernel_rfl) (by kernel_rfl) (by decide) (by intro c a d v w h; cases d <;> exact h) ?_
  change wpPlanR _ _ _ _ _ _ _ w3.drew
  have hd3 : Gr tb w3 w3.drew := Gr.of ((Below.refl _ _).drew)
  refine wpPlanR_runW rfl (by rfl) _ (fun x => load_run 31 _ rfl (w.heap.size + 1 + 1) 0 rfl (old.map bv) (.array 16 5) arr_dig rfl hDs.out x.world ((x.rel hW3'.out.drew).range 0 _ (take_all0 _))) ?_
  refine wpPlanR_runW rfl (by rfl) _ (fun x => load_run 31 _ rfl (w.heap.size + 1 + 1) 0 rfl (old.map bv) (.array 16 5) arr_dig rfl hDs.out x.world ((x.rel hW3'.out.drew).range 0 _ (take_all0 _))) ?_
  refine wpPlanR_call rfl (fun K hK => ?_)
  refine wpList_row_store rfl 31 _ _ rfl (old.map bv) rfl rfl q1'.out.drew hDs.out (by rw [hDl]; rfl) hDo ?_
  intro w4 hW4 ho4
  refine wpList_end (planPostR_normal ⟨.inr (fun z => z.only ho4 (by omega)), hK _ _ ?_⟩)
  clear hK K
  have q2'' := Lib.hid (q2'.out.drew.only ho4 (by omega))
  refine wpPlanR_call rfl (fun K hK => ?_)
  refine wpList_row_store rfl 31 _ _ rfl (old.map bv) rfl rfl q2''.out hDs.out (by rw [hDl]; rfl) hDo ?_
  intro w5 hW5 ho5
  refine wpList_end (planPostR_normal ⟨.inr (fun z => z.only ho5 (by omega)), hK _ _ ?_⟩)
  clear hK K
  refine wpPlanR_nil ?_
  go_wp2_with fail
  have hW45 := hW4.out.only ho5 (by omega)
  exact bodyPost_ret (ret_blk2 rfl _ w5 (g := w.heap.size) (h := w.heap.size + 1) rfl rfl hW45 hW5.out (.array 16 5) arr_dig rfl hDs.out hDs.out) rfl ⟨rfl, end_gr2 q3'.out.drew ho4 ho5 (q4'.out.trans hd3) (Nat.le_refl _) (Nat.le_succ _) htl.out⟩

set_option maxRecDepth 100000 in
set_option maxHeartbeats 4000000 in
theorem rootsOf_false (B0 lb rb nb pb tb : Nat) (old : List UInt8) (path : List (List UInt8)) (A : Option Addr) (c n j : Nat) (w : World) (hl : old.length = 16) (hd : D16 path) (hj : j ≤ 1000000000000000) (hC : Ckx w B0 lb rb nb pb tb (cl3 59 lb nb rb) 93 old path A c) (ht : Blk w tb [.int .i64 j] 3) :
    Calls Tryd.prog 59 #[.int .i64 n, .int .i64 n, .bool false, .pointer (some ⟨lb, 0, none⟩), .pointer (some ⟨nb, 0, none⟩), .pointer (some ⟨rb, 0, none⟩)] w fun e w' => e = .returned (.tuple #[av (nx path j), av (nx path j)]) ∧ Blk w' tb [.int .i64 ((j + 1 : Nat) : Int)] 3 ∧ Gr tb w w' := by
  have hlb : Hid (∀ o o', Blk ((w.alloc o).alloc o') lb (old.map bv) 31) := fun o o' => (hC.leaf.alloc o).alloc o'
  have hR : Hid (∀ o o', Blk (((w.alloc o).alloc o').alloc (.cells (bz 16).toArray 31)) (w.heap.size + 1 + 1) (bz 16) 31) := fun o o' => (Blk.new _ _ _).at (by simp)
  have HO := Lib.hid (own3 w _ ht)
  have htl := Lib.hid ht.lt
  have hCG : Hid (∀ W, Gr tb w W → Ckx W B0 lb rb nb pb tb (cl3 59 lb nb rb) 93 old path A c) := fun W h => hC.gr h
  have CN : Hid (∀ o2 W3, Only (w.heap.size + 1 + 1) (((w.alloc (.cells (bz 16).toArray 31)).alloc (.cells (bz 16).toArray 31)).alloc o2) W3 → W3.cell? ⟨nb, 0, none⟩ = some (cl2 72 tb pb)) := fun o2 W3 ho => (hC.gr (own3 w _ ht o2 W3 ho).2.2.2).nxt.cell rfl
  unfold cl2 at CN
  have hWl : (old.map bv).length = 16 := by rw [List.length_map, hl]
  have hWs := Lib.hid (size_dig16 _ hWl)
  have hWo := av_one old
  have HX := Lib.hid (fun W (hC : Ckx W B0 lb rb nb pb tb (cl3 59 lb nb rb) 93 old path A c) (ht : Blk W tb [.int .i64 j] 3) => next_any path A c j tb pb B0 W hd hC.rds hC.ne.2.2.2.2.2.1 hC.ne.2.2.2.1.symm hj ht hC.pth)
  have hxl := nx_len hd j
  generalize nx path j = X at HX hxl ⊢
  have hDl : (X.map bv).length = 16 := by rw [List.length_map, hxl]
  have hDs := Lib.hid (size_dig16 _ hDl)
  have hDo := av_one X
  unfold av at HX ⊢
  clear hC ht hl hd hj hxl
  go_enter Tryd.func59, Tryd.ntmps59
  go_wp2_with (first | (refine wpList_blk_load rfl 31 _ rfl 0 rfl (hlb.out _ _) (old.map bv) (take_all0 _) (.array 16 5) arr_dig rfl hWs.out ?_) | (refine wpList_row_store rfl 31 _ _ rfl (old.map bv) rfl rfl (hR.out _ _) hWs.out (by rw [hWl]; rfl) hWo ?_; intro w3 hW3 ho3; have cn := CN.out _ w3 ho3))
  obtain ⟨q1, q2, q3, q4⟩ := HO.out _ w3 ho3
  refine (HX.out _ (hCG.out _ q4) q3).mono ?_
  rintro e w4 ⟨rfl, ht4, hg4⟩
  have hne : w.heap.size ≠ tb ∧ w.heap.size + 1 ≠ tb ∧ w.heap.size + 1 + 1 ≠ tb := by have := htl.out; omega
  have p1 := Lib.hid (q1.gr hg4 hne.1)
  have p2 := Lib.hid (q2.gr hg4 hne.2.1)
  have p3 := Lib.hid (hW3.out.gr hg4 hne.2.2)
  have p4 := Lib.hid ht4
  have p5 := Lib.hid (q4.trans hg4)
  have hne' := Lib.hid hne
  clear q1 q2 q3 q4 hW3 ho3 ht4 hg4 cn hne CN HO hlb hR
  go_wp2_with (refine wpList_row_store rfl 31 _ _ rfl (X.map bv) rfl rfl p3.out hDs.out (by rw [hDl, hWl]) hDo ?_; intro w5 hW5 ho5)
  have r1' := Lib.hid (p1.out.only ho5 (by omega))
  have r2' := Lib.hid (p2.out.only ho5 (by omega))
  have e5 := end_gr p4.out ho5 p5.out (by omega) htl.out
  have r3' := Lib.hid e5.1
  have r4' := Lib.hid e5.2
  have hW5' := Lib.hid hW5.out
  clear e5 ho5 p1 p2 p3 p4 p5
  refine wp_region_planR (R := Kp (w.heap.size + 1 + 1) (X.map bv) 31) (fun _ h => h) (fun _ _ _ h k z => k (h z)) [] [(true, 0), (true, 1), (false, 2), (false, 3)] (by decide) (by kernel_rfl) (by kernel_rfl) (by decide) (by intro c a d v w h; cases d <;> exact h) ?_
  change wpPlanR _ _ _ _ _ _ _ w5.drew
  have hd5 : Gr tb w5 w5.drew := Gr.of ((Below.refl _ _).drew)
  refine wpPlanR_runW rfl (by rfl) _ (fun x => load_run 31 _ rfl (w.heap.size + 1 + 1) 0 rfl (X.map bv) (.array 16 5) arr_dig rfl hDs.out x.world ((x.rel hW5'.out.drew).range 0 _ (take_all0 _))) ?_
  refine wpPlanR_runW rfl (by rfl) _ (fun x => load_run 31 _ rfl (w.heap.size + 1 + 1) 0 rfl (X.map bv) (.array 16 5) arr_dig rfl hDs.out x.world ((x.rel hW5'.out.drew).range 0 _ (take_all0 _))) ?_
  refine wpPlanR_call rfl (fun K hK => ?_)
  refine wpList_row_store rfl 31 _ _ rfl (X.map bv) rfl rfl r1'.out.drew hDs.out (by rw [hDl]; rfl) hDo ?_
  intro w6 hW6 ho6
  refine wpList_end (planPostR_normal ⟨.inr (fun z => z.only ho6 (by omega)), hK _ _ ?_⟩)
  clear hK K
  have r2'' := Lib.hid (r2'.out.drew.only ho6 (by omega))
  refine wpPlanR_call rfl (fun K hK => ?_)
  refine wpList_row_store rfl 31 _ _ rfl (X.map bv) rfl rfl r2''.out hDs.out (by rw [hDl]; rfl) hDo ?_
  intro w7 hW7 ho7
  refine wpList_end (planPostR_normal ⟨.inr (fun z => z.only ho7 (by omega)), hK _ _ ?_⟩)
  clear hK K
  refine wpPlanR_nil ?_
  go_wp2_with fail
  have hW67 := hW6.out.only ho7 (by omega)
  exact bodyPost_ret (ret_blk2 rfl _ w7 (g := w.heap.size) (h := w.heap.size + 1) rfl rfl hW67 hW7.out (.array 16 5) arr_dig rfl hDs.out hDs.out) rfl ⟨rfl, end_gr2 r3'.out.drew ho6 ho7 (r4'.out.trans hd5) (Nat.le_refl _) (Nat.le_succ _) htl.out⟩
end Go.Proofs.YtlgokfgiemaklaaDoor

namespace Go.Proofs.YtlgokfgiemaklaaDoor
set_option linter.unusedVariables false
set_option linter.unusedSimpArgs false
open Go.RowKit

/-- The closure's own two blocks. -/
theorem own2 {tb : Nat} (w : World) (htl : tb < w.heap.size) (W : World)
    (hg : Gr tb ((w.alloc (.cells (bz 16).toArray 31)).alloc (.cells (bz 16).toArray 31)) W) :
    Blk W w.heap.size (bz 16) 31 ∧ Blk W (w.heap.size + 1) (bz 16) 31 ∧ Gr tb w W := by
  have hb : Below w.heap.size w ((w.alloc (.cells (bz 16).toArray 31)).alloc (.cells (bz 16).toArray 31)) := ((Below.refl _ _).alloc (Nat.le_refl _) _).alloc (by simp) _
  exact ⟨((Blk.new w _ _).alloc _).gr hg (by omega), ((Blk.new _ _ _).at (by simp)).gr hg (by omega), (Gr.of hb).trans hg⟩

set_option maxRecDepth 100000 in
set_option maxHeartbeats 4000000 in
theorem rootsOf_left (B0 lb rb nb pb tb : Nat) (old : List UInt8) (path : List (List UInt8)) (A : Option Addr) (c : Nat) (hd : D16 path) (m n j k r : Nat) (mark : Bool) (D1 D2 : List UInt8) (w : World) (h2 : 2 ≤ n) (h47 : n ≤ 140737488355328) (hmn : m < n) (hk : k = Mk.ksz n) (hmk : m ≤ k) (hr : r ≤ 1000000000000000) (hl1 : D1.length = 16) (hl2 : D2.length = 16)
    (hC : Ckx w B0 lb rb nb pb tb (cl3 59 lb nb rb) 93 old path A c) (ht : Blk w tb [.int .i64 j] 3)
    (I1 : Hid (∀ W, Ckx W B0 lb rb nb pb tb (cl3 59 lb nb rb) 93 old path A c → Blk W tb [.int .i64 j] 3 →
      Calls Tryd.prog 59 #[.int .i64 m, .int .i64 k, .bool mark, .pointer (some ⟨lb, 0, none⟩), .pointer (some ⟨nb, 0, none⟩), .pointer (some ⟨rb, 0, none⟩)] W fun e w' => e = .returned (.tuple #[av D1, av D2]) ∧ Blk w' tb [.int .i64 r] 3 ∧ Gr tb W w')) :
    Calls Tryd.prog 59 #[.int .i64 m, .int .i64 n, .bool mark, .pointer (some ⟨lb, 0, none⟩), .pointer (some ⟨nb, 0, none⟩), .pointer (some ⟨rb, 0, none⟩)] w fun e w' => e = .returned (.tuple #[av D1, av (nd D2 (nx path r))]) ∧ Blk w' tb [.int .i64 ((r + 1 : Nat) : Int)] 3 ∧ Gr tb w w' := by
  have t0 : ((m : Int) == (n : Int)) = false := by simp; omega
  have t2 : (m : Int) ≤ (k : Int) := by omega
  have HF := Lib.hid (fun W => firstSize_any n W h2 h47)
  rw [← hk] at HF
  have htl := Lib.hid ht.lt
  have hGa : Hid (∀ o o', Gr tb w ((w.alloc o).alloc o')) := fun o o' => Gr.of (((Below.refl _ _).alloc (Nat.le_refl _) _).alloc (by simp) _)
  have hCa : Hid (∀ o o', Ckx ((w.alloc o).alloc o') B0 lb rb nb pb tb (cl3 59 lb nb rb) 93 old path A c) := fun o o' => hC.gr (hGa.out o o')
  have hta : Hid (∀ o o', Blk ((w.alloc o).alloc o') tb [.int .i64 j] 3) := fun o o' => (ht.alloc o).alloc o'
  have hCG : Hid (∀ W, Gr tb w W → Ckx W B0 lb rb nb pb tb (cl3 59 lb nb rb) 93 old path A c) := fun W h => hC.gr h
  have HO := Lib.hid (own2 (tb := tb) w ht.lt)
  have cr : ∀ o o', ((w.alloc o).alloc o').cell? ⟨rb, 0, none⟩ = some (cl3 59 lb nb rb) := fun o o' => (hCa.out o o').fn.cell rfl
  unfold cl3 at cr
  have HX := Lib.hid (fun W (hC : Ckx W B0 lb rb nb pb tb (cl3 59 lb nb rb) 93 old path A c) (ht : Blk W tb [.int .i64 r] 3) => next_any path A c r tb pb B0 W hd hC.rds hC.ne.2.2.2.2.2.1 hC.ne.2.2.2.1.symm hr ht hC.pth)
  have hxl := nx_len hd r
  generalize nx path r = X at HX hxl ⊢
  have HN := Lib.hid (fun W hT => node_any D2 X W hl2 hxl hT)
  have hnl := nd_len D2 X
  generalize nd D2 X = E at HN hnl ⊢
  have h1l : (D1.map bv).length = 16 := by rw [List.length_map, hl1]
  have h1s := Lib.hid (size_dig16 _ h1l)
  have h1o := av_one D1
  have h2l : (D2.map bv).length = 16 := by rw [List.length_map, hl2]
  have h2s := Lib.hid (size_dig16 _ h2l)
  have h2o := av_one D2
  have hEl : (E.map bv).length = 16 := by rw [List.length_map, hnl]
  have hEs := Lib.hid (size_dig16 _ hEl)
  have hEo := av_one E
  unfold av at I1 HX HN ⊢
  clear hk hC ht hmn h2 hd h47 hmk hr hxl hnl hl1 hl2
  go_enter Tryd.func59, Tryd.ntmps59
  go_wp2_with fail
  refine (HF.out _).mono ?_
  rintro e w1 ⟨rfl, hw1⟩
  subst hw1
  go_wp2_with fail
  refine (I1.out _ (hCa.out _ _) (hta.out _ _)).mono ?_
  rintro e w2 ⟨rfl, ht2, hg2⟩
  obtain ⟨a1, a2, hG2⟩ := HO.out w2 hg2
  have a1' := Lib.hid a1
  have a2' := Lib.hid a2
  have hG2' := Lib.hid hG2
  have ht2' := Lib.hid ht2
  clear a1 a2 hG2 hg2 ht2 cr
  go_wp2_with (first | (refine wpList_row_store rfl 31 _ _ rfl (D1.map bv) rfl rfl a1'.out h1s.out (by rw [h1l]; rfl) h1o ?_; intro w3 hW3 ho3) | (refine wpList_row_store rfl 31 _ _ rfl (D2.map bv) rfl rfl (a2'.out.only ho3 (by omega)) h2s.out (by rw [h2l]; rfl) h2o ?_; intro w4 hW4 ho4))
  have hb4 := end_gr2 ht2'.out ho3 ho4 hG2'.out (Nat.le_refl _) (Nat.le_succ _) htl.out
  have ht4 := Lib.hid hb4.1
  have hG4 := Lib.hid hb4.2
  have p1 := Lib.hid (hW3.out.only ho4 (by omega))
  have p2 := Lib.hid hW4.out
  clear hb4 ho3 ho4 hW3 hW4 a1' a2' hG2' ht2'
  have hne : Hid (w.heap.size ≠ tb ∧ w.heap.size + 1 ≠ tb) := by have := htl.out; show _ ∧ _; omega
  have hd4 : Gr tb w4 w4.drew := Gr.of ((Below.refl _ _).drew)
  have hC4 := Lib.hid (hCG.out w4 hG4.out)
  have cn : ∀ x : ROf (Gr tb) w4.drew, x.world.cell? ⟨nb, 0, none⟩ = some (cl2 72 tb pb) := fun x => (hC4.out.gr (hd4.trans x.rel)).nxt.cell rfl
  unfold cl2 at cn
  refine wp_region_planR (R := Gr tb) (Gr.refl tb) (fun _ _ _ h k => h.trans k) [5, 6] [(true, 0), (true, 1), (true, 2), (false, 3), (false, 4), (false, 5), (false, 6)] (by decide) (by kernel_rfl) (by kernel_rfl) (by decide) (by intro c a d v w h; cases d <;> exact h) ?_
  change wpPlanR _ _ _ _ _ _ _ w4.drew
  refine wpPlanR_runW rfl (by rfl) _ (fun x => load_run 31 _ rfl w.heap.size 0 rfl (D1.map bv) (.array 16 5) arr_dig rfl h1s.out x.world ((p1.out.gr (hd4.trans x.rel) hne.out.1).range 0 _ (take_all0 _))) ?_
  refine wpPlanR_runW rfl (by rfl) _ (fun x => load_run 31 _ rfl (w.heap.size + 1) 0 rfl (D2.map bv) (.array 16 5) arr_dig rfl h2s.out x.world ((p2.out.gr (hd4.trans x.rel) hne.out.2).range 0 _ (take_all0 _))) ?_
  refine wpPlanR_plain rfl (fun K hK => ?_)
  go_simp
  refine hK _ ?_
  clear hK K
  refine wpPlanR_call rfl (fun K hK => ?_)
  go_wp2_with fail
  refine (HX.out _ (hC4.out.gr hd4) (ht4.out.drew)).mono ?_
  rintro e w5 ⟨rfl, ht5, hg5⟩
  go_wp2_with fail
  refine planPostR_normal ⟨.inr hg5, hK _ _ ?_⟩
  clear hK K
  have hG5 : Gr tb w w5 := (hG4.out.trans hd4).trans hg5
  have hC5 := Lib.hid (hC4.out.gr (hd4.trans hg5))
  have r1 := Lib.hid (p1.out.gr (hd4.trans hg5) hne.out.1)
  have r2 := Lib.hid (p2.out.gr (hd4.trans hg5) hne.out.2)
  have ht5' := Lib.hid ht5
  refine wpPlanR_call rfl (fun K hK => ?_)
  go_wp2_with fail
  refine (HN.out _ hC5.out.tab).mono ?_
  rintro e w6 ⟨rfl, hb6⟩
  go_wp2_with fail
  refine planPostR_normal ⟨.inr (Gr.of hb6), hK _ _ ?_⟩
  clear hK K
  have hG6 : Gr tb w w6 := hG5.trans (Gr.of hb6)
  have ht6 := ht5'.out.below hb6 ht5'.out.lt
  have s1 := Lib.hid (r1.out.below hb6 r1.out.lt)
  have s2 := Lib.hid (r2.out.below hb6 r2.out.lt)
  refine wpPlanR_call rfl (fun K hK => ?_)
  refine wpList_row_store rfl 31 _ _ rfl (D1.map bv) rfl rfl s1.out h1s.out rfl h1o ?_
  intro w7 hW7 ho7
  refine wpList_end (planPostR_normal ⟨.inl (by first | trivial | simp), hK _ _ ?_⟩)
  clear hK K
  have s2' := Lib.hid (s2.out.only ho7 (by omega))
  refine wpPlanR_call rfl (fun K hK => ?_)
  refine wpList_row_store rfl 31 _ _ rfl (E.map bv) rfl rfl s2'.out hEs.out (by rw [hEl, h2l]) hEo ?_
  intro w8 hW8 ho8
  refine wpList_end (planPostR_normal ⟨.inl (by first | trivial | simp), hK _ _ ?_⟩)
  clear hK K
  refine wpPlanR_nil ?_
  go_wp2_with fail
  have hW78 := hW7.out.only ho8 (by omega)
  exact bodyPost_ret (ret_blk2 rfl _ w8 (g := w.heap.size) (h := w.heap.size + 1) rfl rfl hW78 hW8.out (.array 16 5) arr_dig rfl h1s.out hEs.out) rfl ⟨rfl, end_gr2 ht6 ho7 ho8 hG6 (Nat.le_refl _) (Nat.le_succ _) htl.out⟩
end Go.Proofs.YtlgokfgiemaklaaDoor

namespace Go.Proofs.YtlgokfgiemaklaaDoor
set_option linter.unusedVariables false
set_option linter.unusedSimpArgs false
open Go.RowKit

set_option maxRecDepth 100000 in
set_option maxHeartbeats 4000000 in
theorem rootsOf_right (B0 lb rb nb pb tb : Nat) (old : List UInt8) (path : List (List UInt8)) (A : Option Addr) (c : Nat) (hd : D16 path) (m n j k r : Nat) (mark : Bool) (D1 D2 : List UInt8) (w : World) (h2 : 2 ≤ n) (h47 : n ≤ 140737488355328) (hmn : m < n) (hk : k = Mk.ksz n) (hmk : k < m) (hr : r ≤ 1000000000000000) (hl1 : D1.length = 16) (hl2 : D2.length = 16)
    (hC : Ckx w B0 lb rb nb pb tb (cl3 59 lb nb rb) 93 old path A c) (ht : Blk w tb [.int .i64 j] 3)
    (I1 : Hid (∀ W, Ckx W B0 lb rb nb pb tb (cl3 59 lb nb rb) 93 old path A c → Blk W tb [.int .i64 j] 3 →
      Calls Tryd.prog 59 #[.int .i64 (m - k : Nat), .int .i64 (n - k : Nat), .bool false, .pointer (some ⟨lb, 0, none⟩), .pointer (some ⟨nb, 0, none⟩), .pointer (some ⟨rb, 0, none⟩)] W fun e w' => e = .returned (.tuple #[av D1, av D2]) ∧ Blk w' tb [.int .i64 r] 3 ∧ Gr tb W w')) :
    Calls Tryd.prog 59 #[.int .i64 m, .int .i64 n, .bool mark, .pointer (some ⟨lb, 0, none⟩), .pointer (some ⟨nb, 0, none⟩), .pointer (some ⟨rb, 0, none⟩)] w fun e w' => e = .returned (.tuple #[av (nd (nx path r) D1), av (nd (nx path r) D2)]) ∧ Blk w' tb [.int .i64 ((r + 1 : Nat) : Int)] 3 ∧ Gr tb w w' := by
  have t0 : ((m : Int) == (n : Int)) = false := by simp; omega
  have t2 : ¬ (m : Int) ≤ (k : Int) := by omega
  have e1 : (m : Int) - (k : Int) = ((m - k : Nat) : Int) := by omega
  have e2 : (n : Int) - (k : Int) = ((n - k : Nat) : Int) := by omega
  have hkn : k < n := by omega
  have HF := Lib.hid (fun W => firstSize_any n W h2 h47)
  rw [← hk] at HF
  have htl := Lib.hid ht.lt
  have hGa : Hid (∀ o o', Gr tb w ((w.alloc o).alloc o')) := fun o o' => Gr.of (((Below.refl _ _).alloc (Nat.le_refl _) _).alloc (by simp) _)
  have hCa : Hid (∀ o o', Ckx ((w.alloc o).alloc o') B0 lb rb nb pb tb (cl3 59 lb nb rb) 93 old path A c) := fun o o' => hC.gr (hGa.out o o')
  have hta : Hid (∀ o o', Blk ((w.alloc o).alloc o') tb [.int .i64 j] 3) := fun o o' => (ht.alloc o).alloc o'
  have hCG : Hid (∀ W, Gr tb w W → Ckx W B0 lb rb nb pb tb (cl3 59 lb nb rb) 93 old path A c) := fun W h => hC.gr h
  have HO := Lib.hid (own2 (tb := tb) w ht.lt)
  have cr : ∀ o o', ((w.alloc o).alloc o').cell? ⟨rb, 0, none⟩ = some (cl3 59 lb nb rb) := fun o o' => (hCa.out o o').fn.cell rfl
  unfold cl3 at cr
  have HX := Lib.hid (fun W (hC : Ckx W B0 lb rb nb pb tb (cl3 59 lb nb rb) 93 old path A c) (ht : Blk W tb [.int .i64 r] 3) => next_any path A c r tb pb B0 W hd hC.rds hC.ne.2.2.2.2.2.1 hC.ne.2.2.2.1.symm hr ht hC.pth)
  have hxl := nx_len hd r
  generalize nx path r = X at HX hxl ⊢
  have HN := Lib.hid (fun W hT => node_any X D1 W hxl hl1 hT)
  have hnl := nd_len X D1
  generalize nd X D1 = E at HN hnl ⊢
  have HM := Lib.hid (fun W hT => node_any X D2 W hxl hl2 hT)
  have hml := nd_len X D2
  generalize nd X D2 = F at HM hml ⊢
  have hXl : (X.map bv).length = 16 := by rw [List.length_map, hxl]
  have hXs := Lib.hid (size_dig16 _ hXl)
  have hXo := av_one X
  have hFl : (F.map bv).length = 16 := by rw [List.length_map, hml]
  have hFs := Lib.hid (size_dig16 _ hFl)
  have hFo := av_one F
  have h1l : (D1.map bv).length = 16 := by rw [List.length_map, hl1]
  have h1s := Lib.hid (size_dig16 _ h1l)
  have h1o := av_one D1
  have h2l : (D2.map bv).length = 16 := by rw [List.length_map, hl2]
  have h2s := Lib.hid (size_dig16 _ h2l)
  have h2o := av_one D2
  have hEl : (E.map bv).length = 16 := by rw [List.length_map, hnl]
  have hEs := Lib.hid (size_dig16 _ hEl)
  have hEo := av_one E
  unfold av at I1 HX HN HM ⊢
  clear hk hC ht h2 hd hr hxl hnl hml hl1 hl2
  go_enter Tryd.func59, Tryd.ntmps59
  go_wp2_with fail
  refine (HF.out _).mono ?_
  rintro e w1 ⟨rfl, hw1⟩
  subst hw1
  go_wp2_with fail
  refine (I1.out _ (hCa.out _ _) (hta.out _ _)).mono ?_
  rintro e w2 ⟨rfl, ht2, hg2⟩
  obtain ⟨a1, a2, hG2⟩ := HO.out w2 hg2
  have a1' := Lib.hid a1
  have a2' := Lib.hid a2
  have hG2' := Lib.hid hG2
  have ht2' := Lib.hid ht2
  have c2 : Hid (∀ W3 W4, Only w.heap.size w2 W3 → Only (w.heap.size + 1) W3 W4 → W4.cell? ⟨nb, 0, none⟩ = some (cl2 72 tb pb)) := fun W3 W4 h3 h4 => (hCG.out W4 (end_gr2 ht2 h3 h4 hG2 (Nat.le_refl _) (Nat.le_succ _) htl.out).2).nxt.cell rfl
  unfold cl2 at c2
  clear a1 a2 hG2 hg2 ht2 cr
  go_wp2_with (first | (refine wpList_row_store rfl 31 _ _ rfl (D1.map bv) rfl rfl a1'.out h1s.out (by rw [h1l]; rfl) h1o ?_; intro w3 hW3 ho3) | (refine wpList_row_store rfl 31 _ _ rfl (D2.map bv) rfl rfl (a2'.out.only ho3 (by omega)) h2s.out (by rw [h2l]; rfl) h2o ?_; intro w4 hW4 ho4; have cn := c2.out _ _ ho3 ho4))
  have hb4 := end_gr2 ht2'.out ho3 ho4 hG2'.out (Nat.le_refl _) (Nat.le_succ _) htl.out
  have ht4 := Lib.hid hb4.1
  have hG4 := Lib.hid hb4.2
  have p1 := Lib.hid (hW3.out.only ho4 (by omega))
  have p2 := Lib.hid hW4.out
  clear hb4 ho3 ho4 hW3 hW4 a1' a2' hG2' ht2'
  have hne : Hid (w.heap.size ≠ tb ∧ w.heap.size + 1 ≠ tb) := by have := htl.out; show _ ∧ _; omega
  have hC4 := Lib.hid (hCG.out w4 hG4.out)
  refine (HX.out _ hC4.out ht4.out).mono ?_
  rintro e w5 ⟨rfl, ht5, hg5⟩
  have hG5 := Lib.hid (hG4.out.trans hg5)
  have r1 := Lib.hid (p1.out.gr hg5 hne.out.1)
  have r2 := Lib.hid (p2.out.gr hg5 hne.out.2)
  have ht5' := Lib.hid ht5
  have hs5 := Lib.hid hG5.out.size
  clear hg5 ht5 p1 p2 hC4 ht4 cn c2
  go_wp2_with (refine wpList_row_store rfl 31 _ _ rfl (X.map bv) rfl rfl (Blk.new w5 (bz 16) 31) hXs.out (by rw [hXl]; rfl) hXo ?_; intro w6 hW6 ho6)
  have hb6 : Below w5.heap.size w5 w6 := ((Below.refl _ _).alloc (Nat.le_refl _) _).trans (ho6.below (Nat.le_refl _))
  have ht6 := Lib.hid (ht5'.out.below hb6 ht5'.out.lt)
  have hG6 := Lib.hid (hG5.out.trans (Gr.of hb6))
  have u1 := Lib.hid (r1.out.below hb6 r1.out.lt)
  have u2 := Lib.hid (r2.out.below hb6 r2.out.lt)
  have hW6' := Lib.hid hW6.out
  have hne6 : Hid (w5.heap.size ≠ tb) := by have := ht5'.out.lt; show _ ≠ _; omega
  have hC6 := Lib.hid (hCG.out w6 hG6.out)
  clear hb6 ho6 r1 r2 ht5' hG5 hW6
  have hd6 : Gr tb w6 w6.drew := Gr.of ((Below.refl _ _).drew)
  refine wp_region_planR (R := Gr tb) (Gr.refl tb) (fun _ _ _ h k => h.trans k) [6, 7] [(true, 0), (true, 1), (true, 3), (true, 4), (false, 2), (false, 5), (false, 6), (false, 7)] (by decide) (by kernel_rfl) (by kernel_rfl) (by decide) (by intro c a d v w h; cases d <;> exact h) ?_
  change wpPlanR _ _ _ _ _ _ _ w6.drew
  refine wpPlanR_runW rfl (by rfl) _ (fun x => load_run 31 _ rfl w5.heap.size 0 rfl (X.map bv) (.array 16 5) arr_dig rfl hXs.out x.world ((hW6'.out.gr (hd6.trans x.rel) hne6.out).range 0 _ (take_all0 _))) ?_
  refine wpPlanR_runW rfl (by rfl) _ (fun x => load_run 31 _ rfl w.heap.size 0 rfl (D1.map bv) (.array 16 5) arr_dig rfl h1s.out x.world ((u1.out.gr (hd6.trans x.rel) hne.out.1).range 0 _ (take_all0 _))) ?_
  refine wpPlanR_runW rfl (by rfl) _ (fun x => load_run 31 _ rfl w5.heap.size 0 rfl (X.map bv) (.array 16 5) arr_dig rfl hXs.out x.world ((hW6'.out.gr (hd6.trans x.rel) hne6.out).range 0 _ (take_all0 _))) ?_
  refine wpPlanR_runW rfl (by rfl) _ (fun x => load_run 31 _ rfl (w.heap.size + 1) 0 rfl (D2.map bv) (.array 16 5) arr_dig rfl h2s.out x.world ((u2.out.gr (hd6.trans x.rel) hne.out.2).range 0 _ (take_all0 _))) ?_
  refine wpPlanR_call rfl (fun K hK => ?_)
  go_wp2_with fail
  refine (HN.out _ (hC6.out.gr hd6).tab).mono ?_
  rintro e w7 ⟨rfl, hb7⟩
  go_wp2_with fail
  refine planPostR_normal ⟨.inr (Gr.of hb7), hK _ _ ?_⟩
  clear hK K
  have hg7 := Lib.hid (hd6.trans (Gr.of hb7))
  refine wpPlanR_call rfl (fun K hK => ?_)
  go_wp2_with fail
  refine (HM.out _ (hC6.out.gr hg7.out).tab).mono ?_
  rintro e w8 ⟨rfl, hb8⟩
  go_wp2_with fail
  refine planPostR_normal ⟨.inr (Gr.of hb8), hK _ _ ?_⟩
  clear hK K
  have hg8 := hg7.out.trans (Gr.of hb8)
  have hG8 := hG6.out.trans hg8
  have ht8 := (ht6.out.drew.below hb7 ht6.out.drew.lt)
  have ht8' := ht8.below hb8 ht8.lt
  have s1 := Lib.hid (u1.out.gr hg8 hne.out.1)
  have s2 := Lib.hid (u2.out.gr hg8 hne.out.2)
  refine wpPlanR_call rfl (fun K hK => ?_)
  refine wpList_row_store rfl 31 _ _ rfl (E.map bv) rfl rfl s1.out hEs.out (by rw [hEl, h1l]) hEo ?_
  intro w9 hW9 ho9
  refine wpList_end (planPostR_normal ⟨.inl (by first | trivial | simp), hK _ _ ?_⟩)
  clear hK K
  have s2' := Lib.hid (s2.out.only ho9 (by omega))
  refine wpPlanR_call rfl (fun K hK => ?_)
  refine wpList_row_store rfl 31 _ _ rfl (F.map bv) rfl rfl s2'.out hFs.out (by rw [hFl, h2l]) hFo ?_
  intro wa hWa hoa
  refine wpList_end (planPostR_normal ⟨.inl (by first | trivial | simp), hK _ _ ?_⟩)
  clear hK K
  refine wpPlanR_nil ?_
  go_wp2_with fail
  have hW9a := hW9.out.only hoa (by omega)
  exact bodyPost_ret (ret_blk2 rfl _ wa (g := w.heap.size) (h := w.heap.size + 1) rfl rfl hW9a hWa.out (.array 16 5) arr_dig rfl hEs.out hFs.out) rfl ⟨rfl, end_gr2 ht8' ho9 hoa hG8 (Nat.le_refl _) (Nat.le_succ _) htl.out⟩
end Go.Proofs.YtlgokfgiemaklaaDoor

namespace Go.Proofs.YtlgokfgiemaklaaDoor
set_option linter.unusedVariables false
set_option linter.unusedSimpArgs false
open Go.RowKit

theorem rootsOf_up (B0 lb rb nb pb tb : Nat) (old : List UInt8) (path : List (List UInt8)) (A : Option Addr) (c : Nat) (hl : old.length = 16) (hd : D16 path) (N : Nat) : ∀ (m n : Nat) (mark : Bool) (j : Nat) (w : World), n ≤ N → 1 ≤ m → m ≤ n → n ≤ 140737488355328 → j + n ≤ 1000000000000000 → Ckx w B0 lb rb nb pb tb (cl3 59 lb nb rb) 93 old path A c → Blk w tb [.int .i64 j] 3 →
    Calls Tryd.prog 59 #[.int .i64 m, .int .i64 n, .bool mark, .pointer (some ⟨lb, 0, none⟩), .pointer (some ⟨nb, 0, none⟩), .pointer (some ⟨rb, 0, none⟩)] w fun e w' => e = .returned (.tuple #[av (csm path old m n mark j).1.1, av (csm path old m n mark j).1.2]) ∧ Blk w' tb [.int .i64 ((csm path old m n mark j).2 : Nat)] 3 ∧ Gr tb w w' := by
  induction N with
  | zero => intro m n mark j w h h1 h2; omega
  | succ N ih =>
    intro m n mark j w h h1 h2 h47 hj hC ht
    by_cases h3 : m = n
    · subst h3
      cases mark with
      | true =>
        rw [csm_true]
        exact rootsOf_true B0 lb rb nb pb tb old path A c m j w hl hC ht
      | false =>
        rw [csm_false]
        exact rootsOf_false B0 lb rb nb pb tb old path A c m j w hl hd (by omega) hC ht
    · have a := Mk.ksz_lt (show 2 ≤ n by omega)
      have b := Mk.ksz_pos n
      by_cases hk : m ≤ Mk.ksz n
      · have hle := csm_le path old hl hd (Mk.ksz n) m (Mk.ksz n) mark j (Nat.le_refl _) h1 hk
        rw [csm_left path old mark j (by omega) (by omega) hk]
        exact rootsOf_left B0 lb rb nb pb tb old path A c hd m n j (Mk.ksz n) _ mark _ _ w (by omega) h47 (by omega) rfl hk (by omega) hle.2.1 hle.2.2 hC ht (fun W hC ht => ih m (Mk.ksz n) mark j W (by omega) h1 hk (by omega) (by omega) hC ht)
      · have hle := csm_le path old hl hd (n - Mk.ksz n) (m - Mk.ksz n) (n - Mk.ksz n) false j (Nat.le_refl _) (by omega) (by omega)
        rw [csm_right path old mark j (by omega) (by omega) hk]
        exact rootsOf_right B0 lb rb nb pb tb old path A c hd m n j (Mk.ksz n) _ mark _ _ w (by omega) h47 (by omega) rfl (by omega) (by omega) hle.2.1 hle.2.2 hC ht (fun W hC ht => ih (m - Mk.ksz n) (n - Mk.ksz n) false j W (by omega) (by omega) (by omega) (by omega) (by omega) hC ht)
end Go.Proofs.YtlgokfgiemaklaaDoor

namespace Go.Proofs.YtlgokfgiemaklaaDoor
set_option linter.unusedVariables false
set_option linter.unusedSimpArgs false
open Go.RowKit

theorem fin2 {tb la ra : Nat} {w w4 : World} {v : Value} {D1 old root : List UInt8} (q1 : Blk w4 la (old.map bv) 31) (q4 : Blk w4 ra (root.map bv) 31) (q6 : Blk w4 tb [v] 3) (hg : Gr tb w w4) (w5 w6 : World)
    (ho5 : Only w4.heap.size ((w4.alloc (.cells (bz 16).toArray 31)).alloc (.cells (bz 16).toArray 31)) w5) (ho6 : Only (w4.heap.size + 1) w5 w6) (h1 : Hid (Blk w5 w4.heap.size (D1.map bv) 31)) :
    Blk w6 w4.heap.size (D1.map bv) 31 ∧ Blk w6 la (old.map bv) 31 ∧ Blk w6 ra (root.map bv) 31 ∧ Blk w6 tb [v] 3 ∧ Gr tb w w6 := by
  have hb : Below w4.heap.size w4 w6 := ((((Below.refl _ _).alloc (Nat.le_refl _) _).alloc (by simp) _).trans (ho5.below (Nat.le_refl _))).trans (ho6.below (by omega))
  exact ⟨h1.out.only ho6 (by omega), q1.below hb q1.lt, q4.below hb q4.lt, q6.below hb q6.lt, hg.trans (Gr.of hb)⟩

set_option maxRecDepth 100000 in
set_option maxHeartbeats 4000000 in
theorem csc1_any (B0 la ma na ra pb tb : Nat) (old root : List UInt8) (path : List (List UInt8)) (A : Option Addr) (c m n : Nat) (r1 r2 : Bool) (w : World) (hl : old.length = 16) (hrl : root.length = 16) (hd : D16 path) (h1 : 1 ≤ m) (h47 : n ≤ 140737488355328) (hi : m ≤ n)
    (hr1 : ((csm path old m n true 0).1.1 == old) = r1) (hr2 : ((csm path old m n true 0).1.2 == root) = r2) (b1 : Blk w la (old.map bv) 31) (b2 : Blk w ma [.int .i64 m] 3) (b3 : Blk w na [.int .i64 n] 3) (b4 : Blk w ra (root.map bv) 31) (b5 : Blk w pb [.slice A path.length c] 22) (b6 : Blk w tb [.int .i64 0] 3)
    (hrd : Rds w B0 A ((flat path).map bv)) (ht : Tab 2 w) (hg : 2 < B0) (hB : B0 ≤ tb) (n1 : la ≠ tb) (n2 : ma ≠ tb) (n3 : na ≠ tb) (n4 : ra ≠ tb) (n5 : pb ≠ tb) :
    Calls Tryd.prog 58 #[cl2 72 tb pb, .pointer (some ⟨la, 0, none⟩), .pointer (some ⟨ma, 0, none⟩), .pointer (some ⟨na, 0, none⟩), .pointer (some ⟨ra, 0, none⟩)] w fun e w' => e = .returned (.bool (r1 && r2)) ∧ Blk w' tb [.int .i64 ((csm path old m n true 0).2 : Nat)] 3 ∧ Gr tb w w' := by
  obtain ⟨W2, hW2⟩ : ∃ W2, W2 = (w.alloc (.cells #[cl2 72 tb pb] 71)).alloc (.cells #[.nilFunc] 93) := ⟨_, rfl⟩
  have htl := b6.lt
  have hs2 : W2.heap.size = w.heap.size + 2 := by rw [hW2]; simp
  have hb2 : Below w.heap.size w W2 := by rw [hW2]; exact ((Below.refl _ _).alloc (Nat.le_refl _) _).alloc (by simp) _
  have hN2 : Blk W2 w.heap.size [cl2 72 tb pb] 71 := by rw [hW2]; exact (Blk.new _ [_] _).alloc _
  have hF2 : Blk W2 (w.heap.size + 1) [.nilFunc] 93 := by rw [hW2]; exact (Blk.new _ [_] _).at (by simp)
  have hsf : (Tryd.prog.info? 93).map (·.size) = some 1 := by kernel_rfl
  obtain ⟨F, hF⟩ : ∃ F, F = cl3 59 la w.heap.size (w.heap.size + 1) := ⟨_, rfl⟩
  have hone : ∀ u ∈ F.cells.toList, u.oneCell' = true := by
    intro u hu
    rw [hF] at hu
    have hu' : u ∈ [cl3 59 la w.heap.size (w.heap.size + 1)] := hu
    simp only [List.mem_singleton] at hu'
    subst hu'
    rfl
  have H3 : Hid (∀ W3, Hid (Blk W3 (w.heap.size + 1) [F] 93) → Only (w.heap.size + 1) W2 W3 → Gr tb w W3 ∧ Ckx W3 B0 la (w.heap.size + 1) w.heap.size pb tb (cl3 59 la w.heap.size (w.heap.size + 1)) 93 old path A c ∧ Blk W3 ma [.int .i64 m] 3 ∧ Blk W3 na [.int .i64 n] 3 ∧ Blk W3 ra (root.map bv) 31 ∧ Blk W3 tb [.int .i64 0] 3) := fun W3 hf ho => by
    have hb3 : Below w.heap.size w W3 := hb2.trans (ho.below (Nat.le_succ _))
    refine ⟨Gr.of hb3, ⟨b1.below hb3 b1.lt, by rw [← hF]; exact hf.out, hN2.only ho (by omega), b5.below hb3 b5.lt, hrd.below (hb3.mono (by omega)), ht.on hb3, n1, by omega, by omega, n5, hg, hB, by have := hb3.size; omega⟩, b2.below hb3 b2.lt, b3.below hb3 b3.lt, b4.below hb3 b4.lt, b6.below hb3 b6.lt⟩
  have hle := csm_le path old hl hd n m n true 0 (Nat.le_refl _) h1 hi
  have HC := Lib.hid (fun W hC ht => rootsOf_up B0 la (w.heap.size + 1) w.heap.size pb tb old path A c hl hd n m n true 0 W (Nat.le_refl _) h1 hi h47 (by omega) hC ht)
  generalize csm path old m n true 0 = R at HC hle hr1 hr2 ⊢
  obtain ⟨⟨D1, D2⟩, k⟩ := R
  simp only at HC hle hr1 hr2 ⊢
  have h1l : (D1.map bv).length = 16 := by rw [List.length_map, hle.2.1]
  have h1s := Lib.hid (size_dig16 _ h1l)
  have h1o := av_one D1
  have h2l : (D2.map bv).length = 16 := by rw [List.length_map, hle.2.2]
  have h2s := Lib.hid (size_dig16 _ h2l)
  have h2o := av_one D2
  have hol : (old.map bv).length = 16 := by rw [List.length_map, hl]
  have hos := Lib.hid (size_dig16 _ hol)
  have hRl : (root.map bv).length = 16 := by rw [List.length_map, hrl]
  have hRs := Lib.hid (size_dig16 _ hRl)
  have hr1' := Lib.hid hr1
  have hr2' := Lib.hid hr2
  have hle' := Lib.hid hle
  have hl' := Lib.hid hl
  have hrl' := Lib.hid hrl
  have hW2' := Lib.hid hW2
  have hF' := Lib.hid hF
  have hF2' := Lib.hid hF2
  have hn2' := Lib.hid (And.intro n1 (And.intro n2 (And.intro n3 n4)))
  have hmf : ∀ (fn : Fn) (first cap : Array Value) (w : World), (Instr.makeFunc fn first cap).run Tryd.prog w = .ok (.func fn first cap) w := fun _ _ _ _ => rfl
  unfold av at HC
  clear hr1 hr2 hle hW2 hF b1 b2 b3 b4 b5 b6 hrd ht hg hB n1 n2 n3 n4 n5 hs2 hb2 hN2 hF2 htl hi h1 h47 hl hrl hd
  unfold cl2 at hW2' ⊢
  have hF2c := hF2'.out
  rw [hW2'.out] at hF2c
  have hF2d := Lib.hid hF2c
  clear hF2c hF2'
  rw [hF'.out] at hone
  unfold cl3 at hone
  have C3 : Hid (∀ W3, Hid (Blk W3 (w.heap.size + 1) [F] 93) → Only (w.heap.size + 1) W2 W3 → W3.cell? ⟨w.heap.size + 1, 0, none⟩ = some (cl3 59 la w.heap.size (w.heap.size + 1)) ∧ W3.cell? ⟨ma, 0, none⟩ = some (.int .i64 m) ∧ W3.cell? ⟨na, 0, none⟩ = some (.int .i64 n)) := fun W3 hf ho => by
    have h := H3.out W3 hf ho
    exact ⟨h.2.1.fn.cell rfl, h.2.2.1.cell rfl, h.2.2.2.1.cell rfl⟩
  rw [hW2'.out, hF'.out] at C3 H3
  unfold cl3 at C3
  cases r1 with
  | false =>
    go_enter Tryd.func58, Tryd.ntmps58
    go_wp2_with (refine wpList_blk_store rfl 93 _ _ rfl 0 _ rfl rfl hF2d.out hsf (Nat.le_of_eq rfl) hone ?_; intro W3 hf3 ho3; obtain ⟨c1, c2, c3⟩ := C3.out _ hf3 ho3)
    obtain ⟨hG3, hC3, q2, q3, q4, q6⟩ := H3.out W3 hf3 ho3
    refine (HC.out _ hC3 q6).mono ?_
    rintro e w4 ⟨rfl, ht4, hg4⟩
    have K6 := Lib.hid (fin2 (D1 := D1) (hC3.leaf.gr hg4 hn2'.out.1) (q4.gr hg4 hn2'.out.2.2.2) ht4 (hG3.trans hg4))
    clear q2 q3 q4 q6 hf3 ho3 c1 c2 c3 ht4 hg4
    go_wp2_with (first | (refine wpList_row_store rfl 31 _ _ rfl (D1.map bv) rfl rfl ((Blk.new w4 (bz 16) 31).alloc _) h1s.out (by rw [h1l]; rfl) h1o ?_; intro w5 hW5 ho5) | (refine wpList_row_store rfl 31 _ _ rfl (D2.map bv) rfl rfl (((Blk.new _ (bz 16) 31).at (by simp)).only ho5 (by omega)) h2s.out (by rw [h2l]; rfl) h2o ?_; intro w6 hW6 ho6; obtain ⟨k1, k2, k3, k4, k5⟩ := K6.out _ _ ho5 ho6 hW5) | (refine wpList_blk_loadW (by rfl) 31 _ rfl 0 rfl k1 (D1.map bv) (take_all0 _) (.array 16 5) arr_dig rfl h1s.out ?_) | (refine wpList_blk_loadW (by rfl) 31 _ rfl 0 rfl k2 (old.map bv) (take_all0 _) (.array 16 5) arr_dig rfl hos.out ?_) | (refine wpList_eql_bytes (by rfl) 31 _ _ _ rfl 16 arr_dig (by kernel_rfl) D1 old hle'.out.2.1 hl'.out rfl rfl false hr1'.out ?_))
    go_ret
    exact ⟨rfl, k4, k5⟩
  | true =>
    go_enter Tryd.func58, Tryd.ntmps58
    go_wp2_with (refine wpList_blk_store rfl 93 _ _ rfl 0 _ rfl rfl hF2d.out hsf (Nat.le_of_eq rfl) hone ?_; intro W3 hf3 ho3; obtain ⟨c1, c2, c3⟩ := C3.out _ hf3 ho3)
    obtain ⟨hG3, hC3, q2, q3, q4, q6⟩ := H3.out W3 hf3 ho3
    refine (HC.out _ hC3 q6).mono ?_
    rintro e w4 ⟨rfl, ht4, hg4⟩
    have K6 := Lib.hid (fin2 (D1 := D1) (hC3.leaf.gr hg4 hn2'.out.1) (q4.gr hg4 hn2'.out.2.2.2) ht4 (hG3.trans hg4))
    clear q2 q3 q4 q6 hf3 ho3 c1 c2 c3 ht4 hg4
    go_wp2_with (first | (refine wpList_row_store rfl 31 _ _ rfl (D1.map bv) rfl rfl ((Blk.new w4 (bz 16) 31).alloc _) h1s.out (by rw [h1l]; rfl) h1o ?_; intro w5 hW5 ho5) | (refine wpList_row_store rfl 31 _ _ rfl (D2.map bv) rfl rfl (((Blk.new _ (bz 16) 31).at (by simp)).only ho5 (by omega)) h2s.out (by rw [h2l]; rfl) h2o ?_; intro w6 hW6 ho6; obtain ⟨k1, k2, k3, k4, k5⟩ := K6.out _ _ ho5 ho6 hW5) | (refine wpList_blk_loadW (by rfl) 31 _ rfl 0 rfl k1 (D1.map bv) (take_all0 _) (.array 16 5) arr_dig rfl h1s.out ?_) | (refine wpList_blk_loadW (by rfl) 31 _ rfl 0 rfl k2 (old.map bv) (take_all0 _) (.array 16 5) arr_dig rfl hos.out ?_) | (refine wpList_eql_bytes (by rfl) 31 _ _ _ rfl 16 arr_dig (by kernel_rfl) D1 old hle'.out.2.1 hl'.out rfl rfl true hr1'.out ?_) | (refine wpList_blk_loadW (by rfl) 31 _ rfl 0 rfl hW6.out (D2.map bv) (take_all0 _) (.array 16 5) arr_dig rfl h2s.out ?_) | (refine wpList_blk_loadW (by rfl) 31 _ rfl 0 rfl k3 (root.map bv) (take_all0 _) (.array 16 5) arr_dig rfl hRs.out ?_) | (refine wpList_eql_bytes (by rfl) 31 _ _ _ rfl 16 arr_dig (by kernel_rfl) D2 root hle'.out.2.2 hrl'.out rfl rfl r2 hr2'.out ?_))
    go_ret
    exact ⟨rfl, k4, k5⟩
end Go.Proofs.YtlgokfgiemaklaaDoor

namespace Go.Proofs.YtlgokfgiemaklaaDoor
set_option linter.unusedVariables false
set_option linter.unusedSimpArgs false
open Go.RowKit

set_option maxRecDepth 100000 in
theorem hcf_csc (args : Array Value) (W : World) : (callFunc 58 args).run Tryd.prog W = .ok (.enter 58 args) W := by
  first
    | rfl
    | (with_unfolding_all rfl)
    | kernel_rfl
    | (simp [callFunc, go_sem]; done)
    | (unfold callFunc; go_simp; done)

set_option maxRecDepth 100000 in
set_option maxHeartbeats 1000000 in
theorem checkConsistency_no (old root : List UInt8) (k c : Nat) (A : Option Addr) (m n : Int) (w : World) (hi : m < 0 ∨ n < m ∨ 1099511627776 < n) :
    Calls Tryd.prog 30 #[.int .i64 m, .int .i64 n, av old, av root, .slice A k c] w fun e w' => e = .returned (.bool false) ∧ Below w.heap.size w w' := by
  unfold av
  generalize (old.map bv).toArray = lv
  generalize (root.map bv).toArray = rv
  have HB := Lib.hid (below4 w)
  by_cases t0 : m < 0
  · clear hi
    go_enter Tryd.func30, Tryd.ntmps30
    go_wp2_with fail
    go_ret
    exact ⟨rfl, HB.out _ _ _ _⟩
  by_cases t1 : n < m
  · clear hi
    go_enter Tryd.func30, Tryd.ntmps30
    go_wp2_with fail
    go_ret
    exact ⟨rfl, HB.out _ _ _ _⟩
  have t2 : 1099511627776 < n := by omega
  clear hi
  go_enter Tryd.func30, Tryd.ntmps30
  go_wp2_with fail
  go_ret
  exact ⟨rfl, HB.out _ _ _ _⟩

set_option maxRecDepth 100000 in
set_option maxHeartbeats 4000000 in
theorem checkConsistency_ok (old root : List UInt8) (path : List (List UInt8)) (c m n : Nat) (A : Option Addr) (r1 r2 q : Bool) (w : World) (hl : old.length = 16) (hrl : root.length = 16) (hd : D16 path) (h1 : 1 ≤ m) (h40 : n ≤ 1099511627776) (hi : m ≤ n)
    (hr1 : ((csm path old m n true 0).1.1 == old) = r1) (hr2 : ((csm path old m n true 0).1.2 == root) = r2) (hq : ((r1 && r2) && (((csm path old m n true 0).2 : Int) == (path.length : Int))) = q) (hA : Dg w A path) (ht : Tab 2 w) :
    Calls Tryd.prog 30 #[.int .i64 m, .int .i64 n, av old, av root, .slice A path.length c] w fun e w' => e = .returned (.bool q) ∧ Below w.heap.size w w' := by
  unfold av
  obtain ⟨lv, hlv⟩ : ∃ lv, lv = old.map bv := ⟨_, rfl⟩
  obtain ⟨rv, hrv⟩ : ∃ rv, rv = root.map bv := ⟨_, rfl⟩
  rw [← hlv, ← hrv]
  obtain ⟨W4, hW4⟩ : ∃ W4, W4 = (((w.alloc (.cells #[.int .i64 m] 3)).alloc (.cells #[.int .i64 n] 3)).alloc (.cells lv.toArray 31)).alloc (.cells rv.toArray 31) := ⟨_, rfl⟩
  have hb4 : Below w.heap.size w W4 := by rw [hW4]; exact below4 _ _ _ _ _
  have hs4 : W4.heap.size = w.heap.size + 4 := by rw [hW4]; simp
  have b2 : Blk W4 w.heap.size [.int .i64 m] 3 := by rw [hW4]; exact (((Blk.new _ [_] _).alloc _).alloc _).alloc _
  have b3 : Blk W4 (w.heap.size + 1) [.int .i64 n] 3 := by rw [hW4]; exact (((Blk.new _ [_] _).at (by simp)).alloc _).alloc _
  have b1 : Blk W4 (w.heap.size + 2) (old.map bv) 31 := by rw [hW4, hlv]; exact ((Blk.new _ _ _).at (by simp)).alloc _
  have b4 : Blk W4 (w.heap.size + 3) (root.map bv) 31 := by rw [hW4, hrv]; exact (Blk.new _ _ _).at (by simp)
  have hA4 := hA.below hb4
  have ht4 := ht.on hb4
  have HC := Lib.hid (follow_of 58 path.length c (csm path old m n true 0).2 A (some ⟨w.heap.size + 2, 0, none⟩) (some ⟨w.heap.size, 0, none⟩) (some ⟨w.heap.size + 1, 0, none⟩) (some ⟨w.heap.size + 3, 0, none⟩) (r1 && r2) q W4 hcf_csc hq (fun W hB hs hT hP => by
    have hBw : Below w.heap.size W4 W := hB.mono (by omega)
    exact csc1_any w.heap.size (w.heap.size + 2) w.heap.size (w.heap.size + 1) (w.heap.size + 3) W4.heap.size (W4.heap.size + 2) old root path A c m n r1 r2 W hl hrl hd h1 (by omega) hi hr1 hr2 (b1.below hB b1.lt) (b2.below hB b2.lt) (b3.below hB b3.lt) (b4.below hB b4.lt) hP hT (Rds.below hA4 hBw) (ht4.on hB) ht.1 (by omega) (by omega) (by omega) (by omega) (by omega) (by omega)))
  have t0 : ¬ (m : Int) < 0 := by omega
  have t1 : ¬ (n : Int) < (m : Int) := by omega
  have t2 : ¬ (1099511627776 : Int) < (n : Int) := by omega
  have t3 : ((m : Int) == 0) = false := by simp; omega
  have hW4' := Lib.hid hW4
  have hb4' := Lib.hid hb4
  have hs4' := Lib.hid hs4
  have hmf : ∀ (fn : Fn) (first cap : Array Value) (w : World), (Instr.makeFunc fn first cap).run Tryd.prog w = .ok (.func fn first cap) w := fun _ _ _ _ => rfl
  clear hW4 hb4 hs4 b1 b2 b3 b4 hA4 ht4 hr1 hr2 hq hl hrl hd h1 h40 hi hA ht hlv hrv
  go_enter Tryd.func30, Tryd.ntmps30
  go_wp2_with fail
  generalize hg : (((w.alloc _).alloc _).alloc _).alloc _ = Wg
  have hgW : W4 = Wg := by rw [← hg, hW4'.out]
  clear hg hW4'
  subst hgW
  refine HC.out.mono ?_
  rintro e w5 ⟨rfl, hb5⟩
  go_wp2_with fail
  go_ret
  exact ⟨rfl, hb4'.out.trans (hb5.mono (by rw [hs4'.out]; omega))⟩
end Go.Proofs.YtlgokfgiemaklaaDoor

namespace Go.Proofs.YtlgokfgiemaklaaDoor
set_option linter.unusedVariables false
set_option linter.unusedSimpArgs false
open Go.RowKit

instance (B : Nat) (w : World) : Nonempty (ROf (Below B) w) := ⟨⟨w, Below.refl B w⟩⟩

set_option maxRecDepth 100000 in
set_option maxHeartbeats 2000000 in
theorem checkConsistency_zero (old root : List UInt8) (c n : Nat) (A : Option Addr) (q : Bool) (w : World) (hl : old.length = 16) (h40 : n ≤ 1099511627776) (hq : (old == emp) = q) (ht : Tab 2 w) :
    Calls Tryd.prog 30 #[.int .i64 0, .int .i64 n, av old, av root, .slice A 0 c] w fun e w' => e = .returned (.bool q) ∧ Below w.heap.size w w' := by
  unfold av
  obtain ⟨lv, hlv⟩ : ∃ lv, lv = old.map bv := ⟨_, rfl⟩
  obtain ⟨rv, hrv⟩ : ∃ rv, rv = root.map bv := ⟨_, rfl⟩
  rw [← hlv, ← hrv]
  obtain ⟨W4, hW4⟩ : ∃ W4, W4 = (((w.alloc (.cells #[.int .i64 0] 3)).alloc (.cells #[.int .i64 n] 3)).alloc (.cells lv.toArray 31)).alloc (.cells rv.toArray 31) := ⟨_, rfl⟩
  have hb4 : Below w.heap.size w W4 := by rw [hW4]; exact below4 _ _ _ _ _
  have b1 : Blk W4 (w.heap.size + 2) (old.map bv) 31 := by rw [hW4, hlv]; exact ((Blk.new _ _ _).at (by simp)).alloc _
  have ht4 := Lib.hid (ht.on hb4)
  have t1 : ¬ (n : Int) < 0 := by omega
  have t2 : ¬ (1099511627776 : Int) < (n : Int) := by omega
  have hRt : Hid (∀ W, Tab 2 W → Calls Tryd.prog 15 #[.slice none 0 0] W fun e w' => e = .returned (av emp) ∧ Below W.heap.size W w') := fun W hT => by
    have h := root_any [] none 0 W (by intro d hd; cases hd) (Nat.le_refl _) (by simp) (by intro h; exact absurd rfl h) hT
    rw [rt_nil] at h
    exact h
  have hel : Hid (emp.length = 16) := hashOf_len 32 []
  generalize emp = Z at hRt hq hel
  have hol : (old.map bv).length = 16 := by rw [List.length_map, hl]
  have hos := Lib.hid (size_dig16 _ hol)
  have hl' := Lib.hid hl
  have hq' := Lib.hid hq
  have hW4' := Lib.hid hW4
  have hb4' := Lib.hid hb4
  have b1' := Lib.hid b1
  unfold av at hRt
  clear hW4 hb4 b1 ht hlv hrv hl hq h40
  go_enter Tryd.func30, Tryd.ntmps30
  go_wp2_with fail
  generalize hg : (((w.alloc _).alloc _).alloc _).alloc _ = Wg
  have hgW : W4 = Wg := by rw [← hg, hW4'.out]
  clear hg hW4'
  subst hgW
  have hd4 : Below W4.heap.size W4 W4.drew := (Below.refl _ _).drew
  refine wp_region_planR (R := Below W4.heap.size) (fun w => Below.refl _ w) (fun _ _ _ h k => h.trans k) [] [(true, 0), (true, 1), (true, 2), (true, 3), (true, 4), (false, 5), (true, 6), (true, 7), (true, 8)] (by decide) (by kernel_rfl) (by kernel_rfl) (by decide) (by intro c a d v w h; cases d <;> exact h) ?_
  change wpPlanR _ _ _ _ _ _ _ W4.drew
  iterate 4 (refine wpPlanR_plain rfl (fun K hK => ?_); go_simp; refine hK _ ?_; clear hK K)
  refine wpPlanR_runW rfl (by rfl) _ (fun x => load_run 31 _ rfl (w.heap.size + 2) 0 rfl (old.map bv) (.array 16 5) arr_dig rfl hos.out x.world ((b1'.out.below (hd4.trans x.rel) b1'.out.lt).range 0 _ (take_all0 _))) ?_
  refine wpPlanR_call rfl (fun K hK => ?_)
  go_wp2_with fail
  refine (hRt.out _ (ht4.out.drew)).mono ?_
  rintro e w5 ⟨rfl, hb5⟩
  go_wp2_with fail
  refine planPostR_normal ⟨.inr hb5, hK _ _ ?_⟩
  clear hK K
  refine wpPlanR_runW rfl (by rfl) _ (fun x => eql_run 31 _ _ _ rfl 16 arr_dig (by kernel_rfl) old Z hl'.out hel.out rfl rfl q hq'.out x.world) ?_
  iterate 2 (refine wpPlanR_plain rfl (fun K hK => ?_); go_simp; refine hK _ ?_; clear hK K)
  refine wpPlanR_nil ?_
  go_wp2_with fail
  go_ret
  exact ⟨rfl, hb4'.out.trans ((hd4.trans hb5).mono hb4'.out.size)⟩

set_option maxRecDepth 100000 in
set_option maxHeartbeats 2000000 in
theorem checkConsistency_zero_no (old root : List UInt8) (k c n : Nat) (A : Option Addr) (w : World) (hk : 1 ≤ k) (h40 : n ≤ 1099511627776) :
    Calls Tryd.prog 30 #[.int .i64 0, .int .i64 n, av old, av root, .slice A k c] w fun e w' => e = .returned (.bool false) ∧ Below w.heap.size w w' := by
  unfold av
  generalize (old.map bv).toArray = lv
  generalize (root.map bv).toArray = rv
  have HB := Lib.hid (below4 w)
  have t1 : ¬ (n : Int) < 0 := by omega
  have t2 : ¬ (1099511627776 : Int) < (n : Int) := by omega
  have t3 : ((k : Int) == 0) = false := by simp; omega
  have t4 : ¬ (k : Int) = 0 := by omega
  clear hk h40
  go_enter Tryd.func30, Tryd.ntmps30
  go_wp2_with fail
  generalize hg : (((w.alloc _).alloc _).alloc _).alloc _ = W4
  have hb4 : Below w.heap.size w W4 := by rw [← hg]; exact HB.out _ _ _ _
  have hb4' := Lib.hid hb4
  clear hg HB hb4
  refine wp_region_planR (R := Below W4.heap.size) (fun w => Below.refl _ w) (fun _ _ _ h k => h.trans k) [] [(true, 0), (true, 1), (true, 2), (true, 3), (true, 4), (false, 5), (true, 6), (true, 7), (true, 8)] (by decide) (by kernel_rfl) (by kernel_rfl) (by decide) (by intro c a d v w h; cases d <;> exact h) ?_
  change wpPlanR _ _ _ _ _ _ _ W4.drew
  iterate 5 (refine wpPlanR_plain rfl (fun K hK => ?_); go_simp; refine hK _ ?_; clear hK K)
  refine wpPlanR_call rfl (fun K hK => ?_)
  go_wp2_with fail
  refine planPostR_normal ⟨.inr (Below.refl _ _), hK _ _ ?_⟩
  clear hK K
  iterate 3 (refine wpPlanR_plain rfl (fun K hK => ?_); go_simp; refine hK _ ?_; clear hK K)
  refine wpPlanR_nil ?_
  go_wp2_with fail
  go_ret
  exact ⟨rfl, hb4'.out.drew⟩
end Go.Proofs.YtlgokfgiemaklaaDoor
