/-
  Contracts of stage 3: CheckMany itself. Contracts of stage 3: the reference's Leaf. Contracts of stage 3 with variables, and the tables. Slices of several digests, of several integers, that are written out.
-/
import Derived.Test.YtlgokfgiemaklaaDoorCmac
import Derived.Test.YtlgokfgiemaklaaDoorCscz
import Derived.Test.YtlgokfgiemaklaaDoorMka
import Derived.Test.YtlgokfgiemaklaaDoorTpa
import Derived.Test.YtlgokfgiemaklaaDoorRfm
import Derived.Test.YtlgokfgiemaklaaDoorRwf
import Derived.Test.YtlgokfgiemaklaaDoorInco
namespace Go.Proofs.YtlgokfgiemaklaaDoor
set_option linter.unusedVariables false
set_option linter.unusedSimpArgs false
open Go.RowKit

set_option maxRecDepth 100000 in
theorem hcf_chm (args : Array Value) (W : World) : (callFunc 47 args).run Tryd.prog W = .ok (.enter 47 args) W := by
  first
    | rfl
    | (with_unfolding_all rfl)
    | kernel_rfl
    | (simp [callFunc, go_sem]; done)
    | (unfold callFunc; go_simp; done)

set_option maxRecDepth 100000 in
set_option maxHeartbeats 1000000 in
theorem checkMany_no (ps : List Int) (np nf cp cf k c : Nat) (Ap Af A : Option Addr) (n : Int) (root : List UInt8) (w : World) (hnp : np = ps.length) (h6 : np ≤ 1000000) (hrp : Rds w w.heap.size Ap (ps.map iv)) (hi : n < 0 ∨ 1099511627776 < n ∨ ascGo n 0 ps = false ∨ nf ≠ np) :
    Calls Tryd.prog 23 #[.int .i64 n, .slice Ap np cp, .slice Af nf cf, .slice A k c, av root] w fun e w' => e = .returned (.bool false) ∧ Below w.heap.size w w' := by
  unfold av
  generalize (root.map bv).toArray = rv
  have HB := Lib.hid (below4 w)
  by_cases t0 : n < 0
  · clear hi
    go_enter Tryd.func23, Tryd.ntmps23
    go_wp2_with fail
    go_ret
    exact ⟨rfl, HB.out _ _ _ _⟩
  by_cases t1 : 1099511627776 < n
  · clear hi
    go_enter Tryd.func23, Tryd.ntmps23
    go_wp2_with fail
    go_ret
    exact ⟨rfl, HB.out _ _ _ _⟩
  have hasc : ascGo n 0 ps = false ∨ nf ≠ np := by
    rcases hi with h | h | h | h
    · omega
    · omega
    · exact .inl h
    · exact .inr h
  clear hi
  have HAs : Hid (∀ W, Below w.heap.size w W → Calls Tryd.prog 41 #[.slice Ap np cp, .int .i64 n] W fun e w' => e = .returned (.bool (ascGo n 0 ps)) ∧ w' = W) := fun W hB => by
    rw [hnp]; exact ascending_any ps n Ap cp W ((hrp.below hB).more hB.size) (by omega) (by omega)
  generalize ascGo n 0 ps = r at HAs hasc
  cases r with
  | false =>
    clear hasc hnp h6 hrp
    go_enter Tryd.func23, Tryd.ntmps23
    go_wp2_with fail
    refine (HAs.out _ (HB.out _ _ _ _)).mono ?_
    rintro e w1 ⟨rfl, hw1⟩
    subst hw1
    go_wp2_with fail
    go_ret
    exact ⟨rfl, HB.out _ _ _ _⟩
  | true =>
    have hne : nf ≠ np := by simpa using hasc
    have t2 : ((nf : Int) != (np : Int)) = true := by simp only [bne_iff_ne, ne_eq]; omega
    have t3 : ¬ (nf : Int) = (np : Int) := by omega
    clear hasc hnp h6 hrp hne
    go_enter Tryd.func23, Tryd.ntmps23
    go_wp2_with fail
    refine (HAs.out _ (HB.out _ _ _ _)).mono ?_
    rintro e w1 ⟨rfl, hw1⟩
    subst hw1
    go_wp2_with fail
    go_ret
    exact ⟨rfl, HB.out _ _ _ _⟩

set_option maxRecDepth 100000 in
set_option maxHeartbeats 2000000 in
theorem checkMany_zero (cp cf c : Nat) (Ap Af A : Option Addr) (root : List UInt8) (q : Bool) (w : World) (hl : root.length = 16) (hq : (root == emp) = q) (ht : Tab 2 w) :
    Calls Tryd.prog 23 #[.int .i64 0, .slice Ap 0 cp, .slice Af 0 cf, .slice A 0 c, av root] w fun e w' => e = .returned (.bool q) ∧ Below w.heap.size w w' := by
  have HAs : Hid (∀ W, Calls Tryd.prog 41 #[.slice Ap 0 cp, .int .i64 0] W fun e w' => e = .returned (.bool true) ∧ w' = W) := fun W => ascending_any [] 0 Ap cp W Rds.empty (by simp) (by omega)
  unfold av
  obtain ⟨rv, hrv⟩ : ∃ rv, rv = root.map bv := ⟨_, rfl⟩
  rw [← hrv]
  obtain ⟨W4, hW4⟩ : ∃ W4, W4 = (((w.alloc (.cells #[.int .i64 0] 3)).alloc (.cells #[.slice Ap 0 cp] 37)).alloc (.cells #[.slice Af 0 cf] 22)).alloc (.cells rv.toArray 31) := ⟨_, rfl⟩
  have hb4 : Below w.heap.size w W4 := by rw [hW4]; exact below4 _ _ _ _ _
  have b1 : Blk W4 (w.heap.size + 3) (root.map bv) 31 := by rw [hW4, hrv]; exact (Blk.new _ _ _).at (by simp)
  have ht4 := Lib.hid (ht.on hb4)
  have hRt : Hid (∀ W, Tab 2 W → Calls Tryd.prog 15 #[.slice none 0 0] W fun e w' => e = .returned (av emp) ∧ Below W.heap.size W w') := fun W hT => by
    have h := root_any [] none 0 W (by intro d hd; cases hd) (Nat.le_refl _) (by simp) (by intro h; exact absurd rfl h) hT
    rw [rt_nil] at h
    exact h
  have hel : Hid (emp.length = 16) := hashOf_len 32 []
  generalize emp = Z at hRt hq hel
  have hol : (root.map bv).length = 16 := by rw [List.length_map, hl]
  have hos := Lib.hid (size_dig16 _ hol)
  have hl' := Lib.hid hl
  have hq' := Lib.hid hq
  have hW4' := Lib.hid hW4
  have hb4' := Lib.hid hb4
  have b1' := Lib.hid b1
  unfold av at hRt
  clear hW4 hb4 b1 ht hrv hl hq
  go_enter Tryd.func23, Tryd.ntmps23
  go_wp2_with fail
  refine (HAs.out _).mono ?_
  rintro e w1 ⟨rfl, hw1⟩
  subst hw1
  go_wp2_with fail
  generalize hg : (((w.alloc _).alloc _).alloc _).alloc _ = Wg
  have hgW : W4 = Wg := by rw [← hg, hW4'.out]
  clear hg hW4'
  subst hgW
  have hd4 : Below W4.heap.size W4 W4.drew := (Below.refl _ _).drew
  refine wp_region_planR (R := Below W4.heap.size) (fun w => Below.refl _ w) (fun _ _ _ h k => h.trans k) [] [(true, 0), (true, 1), (true, 2), (true, 3), (true, 4), (false, 5), (true, 6), (true, 7), (true, 8)] (by decide) (by kernel_rfl) (by kernel_rfl) (by decide) (by intro c a d v w h; cases d <;> exact h) ?_
  change wpPlanR _ _ _ _ _ _ _ W4.drew
  iterate 4 (refine wpPlanR_plain rfl (fun K hK => ?_); go_simp; refine hK _ ?_; clear hK K)
  refine wpPlanR_runW rfl (by rfl) _ (fun x => load_run 31 _ rfl (w.heap.size + 3) 0 rfl (root.map bv) (.array 16 5) arr_dig rfl hos.out x.world ((b1'.out.below (hd4.trans x.rel) b1'.out.lt).range 0 _ (take_all0 _))) ?_
  refine wpPlanR_call rfl (fun K hK => ?_)
  go_wp2_with fail
  refine (hRt.out _ (ht4.out.drew)).mono ?_
  rintro e w5 ⟨rfl, hb5⟩
  go_wp2_with fail
  refine planPostR_normal ⟨.inr hb5, hK _ _ ?_⟩
  clear hK K
  refine wpPlanR_runW rfl (by rfl) _ (fun x => eql_run 31 _ _ _ rfl 16 arr_dig (by kernel_rfl) root Z hl'.out hel.out rfl rfl q hq'.out x.world) ?_
  iterate 2 (refine wpPlanR_plain rfl (fun K hK => ?_); go_simp; refine hK _ ?_; clear hK K)
  refine wpPlanR_nil ?_
  go_wp2_with fail
  go_ret
  exact ⟨rfl, hb4'.out.trans ((hd4.trans hb5).mono hb4'.out.size)⟩

set_option maxRecDepth 100000 in
set_option maxHeartbeats 2000000 in
theorem checkMany_zero_no (cp cf k c : Nat) (Ap Af A : Option Addr) (root : List UInt8) (w : World) (hk : 1 ≤ k) :
    Calls Tryd.prog 23 #[.int .i64 0, .slice Ap 0 cp, .slice Af 0 cf, .slice A k c, av root] w fun e w' => e = .returned (.bool false) ∧ Below w.heap.size w w' := by
  have HAs : Hid (∀ W, Calls Tryd.prog 41 #[.slice Ap 0 cp, .int .i64 0] W fun e w' => e = .returned (.bool true) ∧ w' = W) := fun W => ascending_any [] 0 Ap cp W Rds.empty (by simp) (by omega)
  unfold av
  generalize (root.map bv).toArray = rv
  have HB := Lib.hid (below4 w)
  have t3 : ((k : Int) == 0) = false := by simp; omega
  have t4 : ¬ (k : Int) = 0 := by omega
  clear hk
  go_enter Tryd.func23, Tryd.ntmps23
  go_wp2_with fail
  refine (HAs.out _).mono ?_
  rintro e w1 ⟨rfl, hw1⟩
  subst hw1
  go_wp2_with fail
  generalize hg : (((w.alloc _).alloc _).alloc _).alloc _ = W4
  have hb4 : Below w.heap.size w W4 := by rw [← hg]; exact HB.out _ _ _ _
  have hb4' := Lib.hid hb4
  clear hg HB hb4
  refine wp_region_planR (R := Below W4.heap.size) (fun w => Below.refl _ w) (fun _ _ _ h k => h.trans k) [] [(true, 0), (true, 1), (true, 2), (true, 3), (true, 4), (false, 5), (true, 6), (true, 7), (true, 8)] (by decide) (by kernel_rfl) (by kernel_rfl) (by decide) (by intro c a d v w h; cases d <;> exact h) ?_
  change wpPlanR _ _ _ _ _ _ _ W4.drew
  iterate 5 (refine wpPlanR_plain rfl (fun K hK => ?_); go_simp; refine hK _ ?_; clear hK K)
  refine wpPlanR_call rfl (fun K hK => ?_)
  go_wp2_with fail
  refine planPostR_normal ⟨.inr (Below.refl _ _), hK _ _ ?_⟩
  clear hK K
  iterate 3 (refine wpPlanR_plain rfl (fun K hK => ?_); go_simp; refine hK _ ?_; clear hK K)
  refine wpPlanR_nil ?_
  go_wp2_with fail
  go_ret
  exact ⟨rfl, hb4'.out.drew⟩

set_option maxRecDepth 100000 in
set_option maxHeartbeats 4000000 in
theorem checkMany_ok (ps : List Int) (Fd path : List (List UInt8)) (root : List UInt8) (n np cp cf c : Nat) (Ap Af A : Option Addr) (r q : Bool) (w : World) (hrl : root.length = 16) (hd : D16 path) (h1 : 1 ≤ n) (h40 : n ≤ 1099511627776) (hnp : np = ps.length) (hnf : np = Fd.length) (h6 : np ≤ 1000000) (hcp : np ≤ cp) (hcf : np ≤ cf) (hF : D16 Fd) (hasc : ascGo (n : Int) 0 ps = true)
    (hrp : Rds w w.heap.size Ap (ps.map iv)) (hrf : Dg w Af Fd)
    (hr : ((wlk path 0 n ps Fd 0).1 == root) = r) (hq : (r && (((wlk path 0 n ps Fd 0).2 : Int) == (path.length : Int))) = q) (hA : Dg w A path) (ht : Tab 2 w) :
    Calls Tryd.prog 23 #[.int .i64 n, .slice Ap np cp, .slice Af np cf, .slice A path.length c, av root] w fun e w' => e = .returned (.bool q) ∧ Below w.heap.size w w' := by
  have HAs : Hid (∀ W, Below w.heap.size w W → Calls Tryd.prog 41 #[.slice Ap np cp, .int .i64 n] W fun e w' => e = .returned (.bool true) ∧ w' = W) := fun W hB => by
    have h := ascending_any ps (n : Int) Ap cp W ((hrp.below hB).more hB.size) (by omega) (by omega)
    rw [hasc] at h
    rw [hnp]
    exact h
  unfold av
  obtain ⟨rv, hrv⟩ : ∃ rv, rv = root.map bv := ⟨_, rfl⟩
  rw [← hrv]
  obtain ⟨W4, hW4⟩ : ∃ W4, W4 = (((w.alloc (.cells #[.int .i64 n] 3)).alloc (.cells #[.slice Ap np cp] 37)).alloc (.cells #[.slice Af np cf] 22)).alloc (.cells rv.toArray 31) := ⟨_, rfl⟩
  have hb4 : Below w.heap.size w W4 := by rw [hW4]; exact below4 _ _ _ _ _
  have hs4 : W4.heap.size = w.heap.size + 4 := by rw [hW4]; simp
  have b1 : Blk W4 w.heap.size [.int .i64 n] 3 := by rw [hW4]; exact (((Blk.new _ [_] _).alloc _).alloc _).alloc _
  have b2 : Blk W4 (w.heap.size + 1) [.slice Ap np cp] 37 := by rw [hW4]; exact (((Blk.new _ [_] _).at (by simp)).alloc _).alloc _
  have b3 : Blk W4 (w.heap.size + 2) [.slice Af np cf] 22 := by rw [hW4]; exact ((Blk.new _ [_] _).at (by simp)).alloc _
  have b4 : Blk W4 (w.heap.size + 3) (root.map bv) 31 := by rw [hW4, hrv]; exact (Blk.new _ _ _).at (by simp)
  have hA4 := hA.below hb4
  have hP4 := hrp.below hb4
  have hF4 := hrf.below hb4
  have ht4 := ht.on hb4
  have hgg := ht.1
  have HC := Lib.hid (follow_of 47 path.length c (wlk path 0 n ps Fd 0).2 A (some ⟨w.heap.size, 0, none⟩) (some ⟨w.heap.size + 1, 0, none⟩) (some ⟨w.heap.size + 2, 0, none⟩) (some ⟨w.heap.size + 3, 0, none⟩) r q W4 hcf_chm hq (fun W hB hs hT hP => by
    have hBw : Below w.heap.size W4 W := hB.mono (by omega)
    exact chm1_any w.heap.size w.heap.size (w.heap.size + 1) (w.heap.size + 2) (w.heap.size + 3) W4.heap.size (W4.heap.size + 2) root path A c n np ps Fd Ap Af cp cf r W hrl hd h1 (by omega) hnp hnf h6 hcp hcf hF (ascGo_asc hasc).1 (Rds.below hP4 hBw) (Rds.below hF4 hBw) hr (b1.below hB b1.lt) (b2.below hB b2.lt) (b3.below hB b3.lt) (b4.below hB b4.lt) hP hT (Rds.below hA4 hBw) (ht4.on hB) hgg (by omega) (by omega) (by omega) (by omega) (by omega) (by omega)))
  have t0 : ¬ (n : Int) < 0 := by omega
  have t1 : ¬ (1099511627776 : Int) < (n : Int) := by omega
  have t2 : ((n : Int) == 0) = false := by simp; omega
  have t3 : ((np : Int) != (np : Int)) = false := by simp
  have hW4' := Lib.hid hW4
  have hb4' := Lib.hid hb4
  have hs4' := Lib.hid hs4
  have hmf : ∀ (fn : Fn) (first cap : Array Value) (w : World), (Instr.makeFunc fn first cap).run Tryd.prog w = .ok (.func fn first cap) w := fun _ _ _ _ => rfl
  clear hW4 hb4 hs4 b1 b2 b3 b4 hA4 hP4 hF4 ht4 hr hq hrl hd h1 h40 hasc hA hrp hrf ht hrv hgg hnp hnf hF hcp hcf
  have HB := Lib.hid (below4 w)
  go_enter Tryd.func23, Tryd.ntmps23
  go_wp2_with fail
  refine (HAs.out _ (HB.out _ _ _ _)).mono ?_
  rintro e w1 ⟨rfl, hw1⟩
  subst hw1
  go_wp2_with fail
  generalize hg : (((w.alloc _).alloc _).alloc _).alloc _ = Wg
  have hgW : W4 = Wg := by rw [← hg, hW4'.out]
  clear hg hW4'
  subst hgW
  refine HC.out.mono ?_
  rintro e w5 ⟨rfl, hb5⟩
  go_wp2_with fail
  go_ret
  exact ⟨rfl, hb4'.out.trans (hb5.mono (by rw [hs4'.out]; omega))⟩
end Go.Proofs.YtlgokfgiemaklaaDoor

namespace Go.Proofs.YtlgokfgiemaklaaDoor
set_option linter.unusedVariables false
set_option linter.unusedSimpArgs false
open Go.RowKit

set_option maxRecDepth 100000 in
set_option maxHeartbeats 1000000 in
theorem refLeaf_any (s : List UInt8) (w : World) (hs : s.length ≤ 100000) (ht : Tab 3 w) :
    Calls Tryd.prog 18 #[sv s] w fun e w' => e = .returned (av (lf s)) ∧ Below w.heap.size w w' := by
  have hml : (Sha.message [s]).length ≤ 900000 := by
    have := encB_len s
    simp [Sha.message]
    omega
  have hT := Lib.hid ht
  obtain ⟨D, hD⟩ : ∃ D, D = lf s := ⟨_, rfl⟩
  have HO : Hid (∀ W A c, Rds W W.heap.size A ([s].map sv) → Tab 3 W → Calls Tryd.prog 40 #[.int .i64 30, .slice A 1 c] W fun e w' => e = .returned (av D) ∧ Below W.heap.size W w') := fun W A c hr hT => by
    rw [hD]
    exact refOf_of refSum 30 [s] A c W hr (Nat.le_of_lt (by simp)) hml hT
  have hDl : (D.map bv).length = 16 := by rw [List.length_map, hD]; exact lf_len s
  have hDs := Lib.hid (size_dig16 _ hDl)
  have hDo := av_one D
  rw [← hD]
  clear hD hml ht
  unfold av at HO ⊢
  unfold sv at *
  simp only [List.map_cons, List.map_nil] at HO
  generalize bs s = S at *
  obtain ⟨W2, hW2⟩ : ∃ W2, W2 = (w.alloc (.cells (bz 16).toArray 31)).alloc (.cells #[.string S] 9) := ⟨_, rfl⟩
  have hB2 : Hid (Below w.heap.size w W2) := by show Below _ _ _; rw [hW2]; exact ((Below.refl _ _).alloc (Nat.le_refl _) _).alloc (by simp) _
  have hR2 : Hid (Blk W2 w.heap.size (bz 16) 31) := by show Blk _ _ _ _; rw [hW2]; exact (Blk.new _ _ _).alloc _
  have hr2 : Hid (Rds W2 W2.heap.size (some ⟨w.heap.size + 1, 0, none⟩) [.string S]) := by
    show Rds _ _ _ _
    have h := (Blk.new (w.alloc (.cells (bz 16).toArray 31)) [.string S] 9).rds 0 1
    rw [hW2]
    simpa using h
  have hW2' := Lib.hid hW2
  clear hW2
  go_enter Tryd.func18, Tryd.ntmps18
  go_wp2_with fail
  generalize hg : (w.alloc _).alloc _ = Wg
  have hgW : W2 = Wg := by rw [← hg, hW2'.out]; rfl
  clear hg hW2'
  subst hgW
  refine (HO.out _ _ _ hr2.out (hT.out.on hB2.out)).mono ?_
  rintro e w3 ⟨rfl, hb3⟩
  have hR3 := hR2.out.below hb3 hR2.out.lt
  go_wp2_with (refine wpList_row_store rfl 31 _ _ rfl (D.map bv) rfl rfl hR3 hDs.out (by rw [hDl]; rfl) hDo ?_; intro w4 hW4 ho4)
  exact bodyPost_ret (ret_blk rfl _ w4 (g := w.heap.size) rfl hW4.out (.array 16 5) arr_dig rfl hDs.out) rfl ⟨rfl, (hB2.out.trans (hb3.mono hB2.out.size)).trans (ho4.below (Nat.le_refl _))⟩
end Go.Proofs.YtlgokfgiemaklaaDoor

namespace Go.Proofs.YtlgokfgiemaklaaDoor
set_option linter.unusedVariables false
set_option linter.unusedSimpArgs false
open Go.RowKit

/-- The tables stand. -/
structure Tbs (W : World) : Prop where
  r : Tab 2 W
  k : Tab 3 W
  u : TabU 1 Lib.deBruijn64tab W
theorem Tbs.keep {W W' : World} (h : Tbs W) (hb : Below W.heap.size W W') : Tbs W' := ⟨h.r.on hb, h.k.on hb, h.u.below (by decide) hb⟩
/-- A list of digests that is read. -/
structure DV (W : World) (A : Option Addr) (n c : Nat) (L : List (List UInt8)) : Prop where
  len : n = L.length
  rd : Dg W A L
  cap : n ≤ c
  max : c ≤ maxLen
  nil : A = none → c = 0
  d16 : D16 L
theorem DV.of {W : World} {base : Nat} {A : Option Addr} {n c : Nat} {L : List (List UInt8)} (h : OwnD W base (.slice A n c) L) (hd : D16 L) : DV W A n c L := by
  obtain ⟨A', c', h1, h2, h3, h4, h5⟩ := h.form
  cases h1
  exact ⟨rfl, h5, h2, h3, h4, hd⟩
theorem DV.keep {W W' : World} {A : Option Addr} {n c : Nat} {L : List (List UInt8)} (h : DV W A n c L) (hb : Below W.heap.size W W') : DV W' A n c L := ⟨h.len, h.rd.on hb, h.cap, h.max, h.nil, h.d16⟩
theorem d16_nil : D16 [] := by intro d hd; cases hd
theorem dv_nil (W : World) : DV W none 0 0 [] := ⟨rfl, Rds.empty, Nat.le_refl _, by unfold maxLen; omega, fun _ => rfl, d16_nil⟩
theorem OwnD.dv {W : World} {base : Nat} {v : Value} {L : List (List UInt8)} (h : OwnD W base v L) (hd : D16 L) : ∃ A n c, v = .slice A n c ∧ DV W A n c L := by
  obtain ⟨A, c, h1, h2, h3, h4, h5⟩ := h.form
  exact ⟨A, L.length, c, h1, rfl, h5, h2, h3, h4, hd⟩
/-- A list of integers that is read. -/
structure IV (W : World) (A : Option Addr) (n c : Nat) (ps : List Int) : Prop where
  len : n = ps.length
  rd : Rds W W.heap.size A (ps.map iv)
  cap : n ≤ c
  nil : A = none → c = 0
  fits : ∀ p ∈ ps, Wm.Fits p
theorem IV.keep {W W' : World} {A : Option Addr} {n c : Nat} {ps : List Int} (h : IV W A n c ps) (hb : Below W.heap.size W W') : IV W' A n c ps := ⟨h.len, (h.rd.below hb).more hb.size, h.cap, h.nil, h.fits⟩
theorem rt_d16 {L : List (List UInt8)} (h : D16 L) : (rt L).length = 16 := rt_len h

/-- What the proofs are. -/
def inQ (L : List (List UInt8)) (i : Int) : List (List UInt8) := if 0 ≤ i ∧ i < L.length then inc L i.toNat else []
def inE (L : List (List UInt8)) (i : Int) : Int := if 0 ≤ i ∧ i < L.length then 0 else 1
def csQ (L : List (List UInt8)) (m : Int) : List (List UInt8) := if 1 ≤ m ∧ m ≤ L.length then cs L m.toNat true else []
def csE (L : List (List UInt8)) (m : Int) : Int := if 0 ≤ m ∧ m ≤ L.length then 0 else 1
def mnQ (L : List (List UInt8)) (ps : List Int) : List (List UInt8) := if ascGo L.length 0 ps = true ∧ 1 ≤ L.length then mny 0 L ps else []
def mnE (L : List (List UInt8)) (ps : List Int) : Int := if ascGo L.length 0 ps then 0 else 1
/-- What the checks say. -/
def chI (leaf : List UInt8) (i n : Int) (path : List (List UInt8)) (root : List UInt8) : Bool :=
  if n < 1 ∨ 1099511627776 < n ∨ i < 0 ∨ n ≤ i then false else ((clm path leaf i.toNat n.toNat 0).1 == root) && (((clm path leaf i.toNat n.toNat 0).2 : Int) == (path.length : Int))
def chC (m n : Int) (old root : List UInt8) (path : List (List UInt8)) : Bool :=
  if m < 0 ∨ n < m ∨ 1099511627776 < n then false
  else if m = 0 then (if path.length = 0 then old == emp else false)
  else (((csm path old m.toNat n.toNat true 0).1.1 == old) && ((csm path old m.toNat n.toNat true 0).1.2 == root)) && (((csm path old m.toNat n.toNat true 0).2 : Int) == (path.length : Int))
def chM (n : Int) (ps : List Int) (F path : List (List UInt8)) (root : List UInt8) : Bool :=
  if n < 0 ∨ 1099511627776 < n ∨ ascGo n 0 ps = false ∨ F.length ≠ ps.length then false
  else if n = 0 then (if path.length = 0 then root == emp else false)
  else ((wlk path 0 n.toNat ps F 0).1 == root) && (((wlk path 0 n.toNat ps F 0).2 : Int) == (path.length : Int))
theorem mny_d16 (N : Nat) : ∀ (o : Nat) (L : List (List UInt8)) (ps : List Int), L.length ≤ N → D16 L → D16 (mny o L ps) := by
  induction N with
  | zero =>
    intro o L ps hl hd
    by_cases hp : ps = []
    · subst hp; rw [mny_nil]; exact d16_one (rt_len hd)
    · rw [mny_one o (by omega) hp]; exact d16_nil
  | succ N ih =>
    intro o L ps hl hd
    by_cases hp : ps = []
    · subst hp; rw [mny_nil]; exact d16_one (rt_len hd)
    · by_cases h2 : 2 ≤ L.length
      · have a := Mk.ksz_lt h2
        have b := Mk.ksz_pos L.length
        rw [mny_two o h2 hp]
        exact d16_app (ih _ _ _ (by rw [List.length_take]; omega) (hd.take _)) (ih _ _ _ (by rw [List.length_drop]; omega) (hd.drop _))
      · rw [mny_one o (by omega) hp]; exact d16_nil
theorem inQ_d16 {L : List (List UInt8)} (hd : D16 L) (i : Int) : D16 (inQ L i) := by
  unfold inQ; split
  · exact inc_d16 L.length L _ (Nat.le_refl _) hd
  · exact d16_nil
theorem csQ_d16 {L : List (List UInt8)} (hd : D16 L) (i : Int) : D16 (csQ L i) := by
  unfold csQ; split
  · exact cs_d16 L.length L _ _ (Nat.le_refl _) hd
  · exact d16_nil
theorem mnQ_d16 {L : List (List UInt8)} (hd : D16 L) (ps : List Int) : D16 (mnQ L ps) := by
  unfold mnQ; split
  · exact mny_d16 L.length 0 L ps (Nat.le_refl _) hd
  · exact d16_nil

section
variable {W : World} {A A' Af : Option Addr} {n c n' c' nf cf : Nat} {L M F path : List (List UInt8)} {ps : List Int}
theorem leaf_v (s : List UInt8) (hs : s.length ≤ 100000) (ht : Tbs W) (D : List UInt8) (hD : D = lf s) : Calls Tryd.prog 14 #[sv s] W fun e w' => e = .returned (av D) ∧ Below W.heap.size W w' := by
  subst hD; exact leaf_any s W hs ht.r
theorem node_v (a b : List UInt8) (ha : a.length = 16) (hb : b.length = 16) (ht : Tbs W) (D : List UInt8) (hD : D = nd a b) : Calls Tryd.prog 19 #[av a, av b] W fun e w' => e = .returned (av D) ∧ Below W.heap.size W w' := by
  subst hD; exact node_any a b W ha hb ht.r
theorem rnode_v (a b : List UInt8) (ha : a.length = 16) (hb : b.length = 16) (ht : Tbs W) (D : List UInt8) (hD : D = nd a b) : Calls Tryd.prog 20 #[av a, av b] W fun e w' => e = .returned (av D) ∧ Below W.heap.size W w' := by
  subst hD; exact refNode_any a b W ha hb ht.k
theorem root_v (h : DV W A n c L) (hl : n ≤ 1000000) (ht : Tbs W) (D : List UInt8) (hD : D = rt L) : Calls Tryd.prog 15 #[.slice A n c] W fun e w' => e = .returned (av D) ∧ Below W.heap.size W w' := by
  obtain ⟨rfl, h1, h2, h3, h4, h5⟩ := h
  subst hD; exact root_any L A c W h5 h2 (by omega) h1 ht.r
theorem rroot_v (h : DV W A n c L) (hl : n ≤ 1000000) (ht : Tbs W) (D : List UInt8) (hD : D = rt L) : Calls Tryd.prog 16 #[.slice A n c] W fun e w' => e = .returned (av D) ∧ Below W.heap.size W w' := by
  obtain ⟨rfl, h1, h2, h3, h4, h5⟩ := h
  subst hD; exact refRoot_any L A c W h5 h2 h3 (by omega) h1 ht.k
theorem same_v (h : DV W A n c L) (h' : DV W A' n' c' M) (hl : n ≤ 1000000) (r : Bool) (hr : r = (L == M)) : Calls Tryd.prog 17 #[.slice A n c, .slice A' n' c'] W fun e w' => e = .returned (.bool r) ∧ Below W.heap.size W w' := by
  obtain ⟨rfl, h1, h2, h3, h4, h5⟩ := h
  obtain ⟨rfl, k1, k2, k3, k4, k5⟩ := h'
  subst hr; exact same03_any L M A A' c c' W h1 k1 h5 k5 (by omega)
theorem pf_v {P : List (List UInt8)} {e : Ending} {w' : World} (hd : D16 P) (h : PfEnd P W e w') : ∃ A n c, e = .returned (.tuple #[.slice A n c, .int .i64 0]) ∧ DV w' A n c P ∧ Below W.heap.size W w' := by
  obtain ⟨v, ⟨h1, h2⟩, h3⟩ := h
  obtain ⟨A, n, c, rfl, h4⟩ := h2.dv hd
  exact ⟨A, n, c, h1, h4, h3⟩
theorem incl_v (h : DV W A n c L) (hl : n ≤ 1000000) (ht : Tbs W) (i : Int) (Q : List (List UInt8)) (E : Int) (hQ : Q = inQ L i) (hE : E = inE L i) : Calls Tryd.prog 10 #[.slice A n c, .int .i64 i] W fun e w' => ∃ A n c, e = .returned (.tuple #[.slice A n c, .int .i64 E]) ∧ DV w' A n c Q ∧ Below W.heap.size W w' := by
  have hd := inQ_d16 h.d16 i
  obtain ⟨rfl, h1, h2, h3, h4, h5⟩ := h
  subst hQ hE
  unfold inQ inE at *
  by_cases hi : 0 ≤ i ∧ i < L.length
  · rw [if_pos hi] at hd ⊢
    rw [if_pos hi]
    obtain ⟨k, rfl⟩ := Int.eq_ofNat_of_zero_le hi.1
    exact (inclusion_ok L A c k W h5 h2 hl (by omega) h1 ht.r).mono fun e w' h => pf_v hd h
  · rw [if_neg hi, if_neg hi]
    refine (inclusion_no L.length A c i W (by omega)).mono ?_
    rintro e w' ⟨rfl, rfl⟩
    exact ⟨none, 0, 0, rfl, dv_nil _, Below.refl _ _⟩
theorem cons_v (h : DV W A n c L) (hl : n ≤ 1000000) (ht : Tbs W) (m : Int) (Q : List (List UInt8)) (E : Int) (hQ : Q = csQ L m) (hE : E = csE L m) : Calls Tryd.prog 11 #[.slice A n c, .int .i64 m] W fun e w' => ∃ A n c, e = .returned (.tuple #[.slice A n c, .int .i64 E]) ∧ DV w' A n c Q ∧ Below W.heap.size W w' := by
  have hd := csQ_d16 h.d16 m
  obtain ⟨rfl, h1, h2, h3, h4, h5⟩ := h
  subst hQ hE
  unfold csQ csE at *
  by_cases h0 : m = 0
  · subst h0
    rw [if_neg (show ¬ (1 ≤ (0 : Int) ∧ (0 : Int) ≤ L.length) by omega), if_pos (show 0 ≤ (0 : Int) ∧ (0 : Int) ≤ L.length by omega)]
    refine (consistency_zero L.length A c W).mono ?_
    rintro e w' ⟨rfl, rfl⟩
    exact ⟨none, 0, 0, rfl, dv_nil _, Below.refl _ _⟩
  by_cases hi : 1 ≤ m ∧ m ≤ L.length
  · rw [if_pos hi] at hd ⊢
    rw [if_pos (by omega)]
    obtain ⟨k, rfl⟩ := Int.eq_ofNat_of_zero_le (show 0 ≤ m by omega)
    exact (consistency_pos L A c k W h5 h2 hl (by omega) (by omega) h1 ht.r).mono fun e w' h => pf_v hd h
  · rw [if_neg hi, if_neg (by omega)]
    refine (consistency_no L.length A c m W (by omega)).mono ?_
    rintro e w' ⟨rfl, rfl⟩
    exact ⟨none, 0, 0, rfl, dv_nil _, Below.refl _ _⟩
theorem many_v (h : DV W A n c L) (h' : IV W A' n' c' ps) (hl : n ≤ 500000) (hl' : n' ≤ 1000000) (ht : Tbs W) (Q : List (List UInt8)) (E : Int) (hQ : Q = mnQ L ps) (hE : E = mnE L ps) : Calls Tryd.prog 21 #[.slice A n c, .slice A' n' c'] W fun e w' => ∃ A n c, e = .returned (.tuple #[.slice A n c, .int .i64 E]) ∧ DV w' A n c Q ∧ Below W.heap.size W w' := by
  have hd := mnQ_d16 h.d16 ps
  obtain ⟨rfl, h1, h2, h3, h4, h5⟩ := h
  obtain ⟨rfl, k1, k2, k3, k4⟩ := h'
  subst hQ hE
  unfold mnQ mnE at *
  by_cases hi : ascGo L.length 0 ps = true ∧ 1 ≤ L.length
  · rw [if_pos hi] at hd ⊢
    rw [if_pos hi.1]
    exact (many_ok L A c ps A' c' W h5 h2 hl hi.2 hl' k2 k1 hi.1 h1 ht.r).mono fun e w' h => pf_v hd h
  · rw [if_neg hi]
    refine (many_no L.length A c ps A' c' W (by omega) hl' k1 (by
      cases ha : ascGo (L.length : Int) 0 ps with
      | false => exact .inl rfl
      | true =>
        right
        have : ¬ 1 ≤ L.length := fun h => hi ⟨ha, h⟩
        omega)).mono ?_
    rintro e w' ⟨rfl, rfl⟩
    exact ⟨none, 0, 0, rfl, dv_nil _, Below.refl _ _⟩
theorem chI_v (leaf root : List UInt8) (hl : leaf.length = 16) (hr : root.length = 16) (h : DV W A n c path) (ht : Tbs W) (i m : Int) (r : Bool) (hrr : r = chI leaf i m path root) : Calls Tryd.prog 29 #[av leaf, .int .i64 i, .int .i64 m, .slice A n c, av root] W fun e w' => e = .returned (.bool r) ∧ Below W.heap.size W w' := by
  obtain ⟨rfl, h1, h2, h3, h4, h5⟩ := h
  subst hrr
  unfold chI
  by_cases hi : m < 1 ∨ 1099511627776 < m ∨ i < 0 ∨ m ≤ i
  · rw [if_pos hi]
    exact checkInclusion_no leaf root path.length c A i m W hi
  · rw [if_neg hi]
    obtain ⟨j, rfl⟩ := Int.eq_ofNat_of_zero_le (show 0 ≤ i by omega)
    obtain ⟨k, rfl⟩ := Int.eq_ofNat_of_zero_le (show 0 ≤ m by omega)
    exact checkInclusion_ok leaf root path c j k A _ _ W hl hr h5 (by omega) (by omega) (by omega) rfl rfl h1 ht.r
theorem chC_v (old root : List UInt8) (hl : old.length = 16) (hr : root.length = 16) (h : DV W A n c path) (ht : Tbs W) (m k : Int) (r : Bool) (hrr : r = chC m k old root path) : Calls Tryd.prog 30 #[.int .i64 m, .int .i64 k, av old, av root, .slice A n c] W fun e w' => e = .returned (.bool r) ∧ Below W.heap.size W w' := by
  obtain ⟨rfl, h1, h2, h3, h4, h5⟩ := h
  subst hrr
  unfold chC
  by_cases hi : m < 0 ∨ k < m ∨ 1099511627776 < k
  · rw [if_pos hi]
    exact checkConsistency_no old root path.length c A m k W hi
  · rw [if_neg hi]
    obtain ⟨j, rfl⟩ := Int.eq_ofNat_of_zero_le (show 0 ≤ m by omega)
    obtain ⟨q, rfl⟩ := Int.eq_ofNat_of_zero_le (show 0 ≤ k by omega)
    by_cases h0 : (j : Int) = 0
    · rw [if_pos h0]
      obtain rfl : j = 0 := by omega
      by_cases hp : path.length = 0
      · rw [if_pos hp, hp]
        exact checkConsistency_zero old root c q A _ W hl (by omega) rfl ht.r
      · rw [if_neg hp]
        exact checkConsistency_zero_no old root path.length c q A W (by omega) (by omega)
    · rw [if_neg h0]
      exact checkConsistency_ok old root path c j q A _ _ _ W hl hr h5 (by omega) (by omega) (by omega) rfl rfl rfl h1 ht.r
theorem chM_v (root : List UInt8) (hr : root.length = 16) (hp : IV W A' n' c' ps) (hf : DV W Af nf cf F) (h : DV W A n c path) (hl : n' ≤ 1000000) (ht : Tbs W) (m : Int) (r : Bool) (hrr : r = chM m ps F path root) : Calls Tryd.prog 23 #[.int .i64 m, .slice A' n' c', .slice Af nf cf, .slice A n c, av root] W fun e w' => e = .returned (.bool r) ∧ Below W.heap.size W w' := by
  obtain ⟨rfl, h1, h2, h3, h4, h5⟩ := h
  obtain ⟨rfl, k1, k2, k3, k4⟩ := hp
  obtain ⟨rfl, f1, f2, f3, f4, f5⟩ := hf
  subst hrr
  unfold chM
  by_cases hi : m < 0 ∨ 1099511627776 < m ∨ ascGo m 0 ps = false ∨ F.length ≠ ps.length
  · rw [if_pos hi]
    exact checkMany_no ps ps.length F.length c' cf path.length c A' Af A m root W rfl hl k1 hi
  · rw [if_neg hi]
    have ha : ascGo m 0 ps = true := by
      cases ha : ascGo m 0 ps with
      | true => rfl
      | false => exact absurd (.inr (.inr (.inl ha))) hi
    have hfl : F.length = ps.length := by
      by_cases hfl : F.length = ps.length
      · exact hfl
      · exact absurd (.inr (.inr (.inr hfl))) hi
    have hm0 : 0 ≤ m ∧ m ≤ 1099511627776 := by
      constructor
      · by_cases h : m < 0
        · exact absurd (.inl h) hi
        · omega
      · by_cases h : 1099511627776 < m
        · exact absurd (.inr (.inl h)) hi
        · omega
    obtain ⟨j, rfl⟩ := Int.eq_ofNat_of_zero_le hm0.1
    by_cases h0 : (j : Int) = 0
    · rw [if_pos h0]
      obtain rfl : j = 0 := by omega
      obtain rfl : ps = [] := by
        cases ps with
        | nil => rfl
        | cons p ps =>
          exfalso
          unfold ascGo at ha
          rw [if_pos (by omega)] at ha
          cases ha
      rw [hfl]
      by_cases hp : path.length = 0
      · rw [if_pos hp, hp]
        exact checkMany_zero c' cf c A' Af A root _ W hr rfl ht.r
      · rw [if_neg hp]
        exact checkMany_zero_no c' cf path.length c A' Af A root W (by omega)
    · rw [if_neg h0, hfl]
      exact checkMany_ok ps F path root j ps.length c' cf c A' Af A _ _ W hr h5 (by omega) (by omega) rfl hfl.symm hl k2 (by omega) f5 ha k1 f1 rfl rfl h1 ht.r
theorem append_o (h : DV W A n c L) (hl : n ≤ 1000000) (ht : Tbs W) (leaf : List UInt8) (hf : leaf.length = 16) (z : Nat) (hz : z < 1099511627776) (hok : pkOk z n = true) (Q : List (List UInt8)) (hQ : Q = apL z L leaf) : Calls Tryd.prog 25 #[pkv z A n c, av leaf] W fun e w' => ∃ A n c, e = .returned (.tuple #[pkv ((z + 1 : Nat) : Int) A n c, .int .i64 0]) ∧ n = Q.length ∧ OwnD w' W.heap.size (.slice A n c) Q ∧ D16 Q ∧ Below W.heap.size W w' := by
  subst hQ
  refine (append_ok z L A n c leaf W hz hok h.len h.d16 hf h.rd h.nil h.cap hl ht.r ht.u).mono ?_
  rintro e w' ⟨⟨v, rfl, hO⟩, hb⟩
  obtain ⟨A', n', c', rfl, hdv⟩ := hO.dv (apL_d16 h.d16 hf z)
  exact ⟨A', n', c', rfl, hdv.len, hO, apL_d16 h.d16 hf z, hb⟩
theorem append_v (h : DV W A n c L) (hl : n ≤ 1000000) (ht : Tbs W) (leaf : List UInt8) (hf : leaf.length = 16) (z : Nat) (hz : z < 1099511627776) (hok : pkOk z n = true) (Q : List (List UInt8)) (hQ : Q = apL z L leaf) : Calls Tryd.prog 25 #[pkv z A n c, av leaf] W fun e w' => ∃ A n c, e = .returned (.tuple #[pkv ((z + 1 : Nat) : Int) A n c, .int .i64 0]) ∧ DV w' A n c Q ∧ Below W.heap.size W w' := by
  subst hQ
  refine (append_ok z L A n c leaf W hz hok h.len h.d16 hf h.rd h.nil h.cap hl ht.r ht.u).mono ?_
  rintro e w' ⟨⟨v, rfl, hO⟩, hb⟩
  obtain ⟨A', n', c', rfl, hdv⟩ := hO.dv (apL_d16 h.d16 hf z)
  exact ⟨A', n', c', rfl, hdv, hb⟩
end
end Go.Proofs.YtlgokfgiemaklaaDoor

namespace Go.Proofs.YtlgokfgiemaklaaDoor
set_option linter.unusedVariables false
set_option linter.unusedSimpArgs false
open Go.RowKit

theorem foldl_off (off : Nat) (l : List Value) : ∀ (j : Nat) (pre mid : List Value) (z : Array Value), z.toList = pre ++ mid → pre.length = off + j → l.length ≤ mid.length →
    ((l.zipIdx j).foldl (fun cs x => cs.setIfInBounds (off + x.2) x.1) z).toList = pre ++ l ++ mid.drop l.length := by
  induction l with
  | nil => intro j pre mid z hz _ _; simpa using hz
  | cons v l ih =>
    intro j pre mid z hz hp hm
    match mid, hm with
    | m :: mid', hm =>
      rw [List.zipIdx_cons, List.foldl_cons]
      have h := ih (j + 1) (pre ++ [v]) mid' (z.setIfInBounds (off + j) v) (by rw [Array.toList_setIfInBounds, hz, ← hp]; simp) (by simp; omega) (by simpa using hm)
      simpa using h
theorem fill_rows (s : Nat) : ∀ (ds : List (List Value)) (k : Nat) (pre mid : List Value) (cells : Array Value), cells.toList = pre ++ mid → pre.length = k * s → mid.length = ds.length * s → (∀ d ∈ ds, d.length = s) →
    ∃ C, Instr.fill (fun i => some (i * s, s)) cells ((ds.zipIdx k).map fun p => (p.2, Value.agg p.1.toArray)) = some C ∧ C.toList = pre ++ ds.flatten
  | [], k, pre, mid, cells, h1, h2, h3, h4 => ⟨cells, rfl, by rw [h1]; simp at h3; simp [h3]⟩
  | d :: ds, k, pre, mid, cells, h1, h2, h3, h4 => by
    have hd := h4 d (by simp)
    have hsz : cells.size = pre.length + mid.length := by rw [← Array.length_toList, h1, List.length_append]
    have hm : mid.length = s + ds.length * s := by rw [h3, List.length_cons, Nat.add_mul, Nat.one_mul, Nat.add_comm]
    have hf := foldl_off (k * s) d 0 pre mid cells h1 (by omega) (by omega)
    have hc : (Value.agg d.toArray).cells = d.toArray := rfl
    obtain ⟨C, hC, hC2⟩ := fill_rows s ds (k + 1) (pre ++ d) (mid.drop d.length) _ hf (by rw [List.length_append, h2, hd, Nat.add_mul, Nat.one_mul]) (by rw [List.length_drop]; omega) (fun x hx => h4 x (by simp [hx]))
    refine ⟨C, ?_, by rw [hC2]; simp⟩
    rw [List.zipIdx_cons, List.map_cons]
    unfold Instr.fill
    simp only [hc, List.size_toArray, hd]
    rw [if_neg (by simp; omega)]
    have he : d.toArray.zipIdx.foldl (fun cs (x : Value × Nat) => cs.setIfInBounds (k * s + x.2) x.1) cells = (d.zipIdx 0).foldl (fun cs x => cs.setIfInBounds (k * s + x.2) x.1) cells := by
      rw [← Array.foldl_toList]
      simp
    have he' : (Array.foldl (fun cs (x : Value × Nat) => match x with | (c, j) => cs.setIfInBounds (k * s + j) c) cells d.toArray.zipIdx) = (d.zipIdx 0).foldl (fun cs x => cs.setIfInBounds (k * s + x.2) x.1) cells := he
    rw [he']
    exact hC
theorem run_build_rows {P : Program} (w : World) (t e : TypeId) (i : TypeInfo) (z : Value) (ht : P.underlying t = some (.slice e)) (hi : P.info? e = some i) (hz : i.zero = some z) (s : Nat) (hs : i.size = s) (hs0 : 0 < s) (ds : List (List Value)) (hd : ∀ d ∈ ds, d.length = s) (hn : ds.length * s ≤ 1000) (hn0 : 0 < ds.length)
    (parts : Array (Nat × Value)) (hp : parts.toList = (ds.zipIdx 0).map fun p => (p.2, Value.agg p.1.toArray)) :
    (Instr.buildSlice t ds.length parts).run P w = .ok (.slice (some ⟨w.heap.size, 0, none⟩) ds.length ds.length) (w.alloc (.cells ds.flatten.toArray e)) := by
  obtain ⟨C, hC, hC2⟩ := fill_rows s ds 0 [] ((Array.range (ds.length * s)).map (z.cells[· % z.cells.size]!)).toList ((Array.range (ds.length * s)).map (z.cells[· % z.cells.size]!)) (by simp) (by simp) (by simp) hd
  have hne : ds.length * s ≠ 0 := by have := Nat.mul_pos hn0 hs0; omega
  have h24 : ¬ 16777216 < ds.length * s := by omega
  have hCe : C = ds.flatten.toArray := by apply Array.ext'; simpa using hC2
  rw [← hp] at hC
  simp only [Instr.buildSlice, Sem.run_bind, run_underlying ht, Result.andThen_ok, sizeOf, typeInfo, zeroValue]
  have hds : ds ≠ [] := by intro h; rw [h] at hn0; simp at hn0
  have hs00 : s ≠ 0 := by omega
  simp [hne, h24, newRow, hi, hs, hz, hC, hCe, hds, hs00]
theorem flat_bv (ds : List (List UInt8)) : (ds.map fun d => d.map bv).flatten = (flat ds).map bv := by
  induction ds with
  | nil => rfl
  | cons d ds ih =>
    rw [List.map_cons, List.flatten_cons, ih]
    simp [flat]
/-- '[]Digest{x, y, ..}': the walk's step, guarded or not. -/
theorem step_dgs {w : World} {ops : Array Oper} {rest : List Oper} {o : Oper} {a : Act} {Q : Exit → Act → World → Prop} (hw : Region.wanted o (yielded ops a.tmps) = true) (n : Nat) (parts : Array (Nat × Operand)) (ho : o.op = .buildSlice 22 n parts)
    (ds : List (List UInt8)) (hn : n = ds.length) (hd : D16 ds) (h60 : ds.length ≤ 60) (h1 : 0 < ds.length) (hx : (parts.map fun p => (p.1, a.eval p.2)).toList = ((ds.map fun d => d.map bv).zipIdx 0).map fun p => (p.2, Value.agg p.1.toArray))
    (h : wpList Tryd.prog ops Q rest (a.put o.dst (.slice (some ⟨w.heap.size, 0, none⟩) n n)) (w.alloc (.cells ((flat ds).map bv).toArray 31))) : wpList Tryd.prog ops Q (o :: rest) a w := by
  subst hn
  obtain ⟨i0, hi, hz0, hz1, hz2⟩ := info_parts infoDg
  have hrun := run_build_rows (P := Tryd.prog) w 22 31 i0 _ Tryd.underlying22 hi hz0 16 hz1 (by decide) (ds.map fun d => d.map bv) (by
    intro x hx
    obtain ⟨d, hd', rfl⟩ := List.mem_map.1 hx
    rw [List.length_map]; exact hd d hd') (by rw [List.length_map]; omega) (by rw [List.length_map]; omega) _ hx
  rw [flat_bv, List.length_map] at hrun
  refine wpList_wanted hw ?_
  unfold Oper.wp execOp
  simp only [ho, Sem.run_bind, Sem.run_pure, Result.andThen_ok, hrun]
  exact h
end Go.Proofs.YtlgokfgiemaklaaDoor
