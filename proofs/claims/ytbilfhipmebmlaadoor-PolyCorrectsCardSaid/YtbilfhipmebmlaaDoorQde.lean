/-
  Contracts of stage 6: divide. Contracts of stage 6: DivMod; interpolated and its closure.
-/
import Derived.Test.YtbilfhipmebmlaaDoorQac
import Derived.Test.YtbilfhipmebmlaaDoorMch
namespace Go.Proofs.YtbilfhipmebmlaaDoor
set_option linter.unusedVariables false
set_option linter.unusedSimpArgs false
open Go.RowKit

theorem own_lt {w : World} {base : Nat} {v : Value} {l : List UInt8} (h : OwnB w base v l) {g : Nat} (hg : v.ownBlock = some g) : base ≤ g ∧ g < w.heap.size := by
  rcases h.2 with ⟨rfl, _⟩ | ⟨g', cap, cur, rfl, e2, e3, _⟩
  · cases hg
  · have : g' = g := Option.some.inj hg
    subst this
    exact ⟨e2, (Array.getElem?_eq_some_iff.1 e3).1⟩
theorem own_open {w : World} {base : Nat} {v : Value} {l : List UInt8} (h : OwnB w base v l) (hl : 0 < l.length) : ∃ g cap Z, v = .slice (some ⟨g, 0, none⟩) l.length cap ∧ base ≤ g ∧ Blk w g (l.map bv ++ Z) 5 ∧ l.length + Z.length = cap ∧ cap ≤ maxLen := by
  rcases h.2 with ⟨_, h0⟩ | ⟨g, cap, cur, rfl, e2, e3, e4, e5, e6, e7⟩
  · omega
  · refine ⟨g, cap, cur.toList.drop l.length, rfl, e2, ?_, ?_, e5⟩
    · rw [Nat.mul_one] at e7
      show _ = _
      rw [← e7, List.take_append_drop, Array.toArray_toList]
      exact e3
    · have h8 : cur.toList.length = cur.size := Array.length_toList
      rw [List.length_drop, h8]; omega
theorem own_shut {w : World} {base g cap : Nat} {X : List UInt8} {Z : List Value} (h : Blk w g (X.map bv ++ Z) 5) (hB : base ≤ g) (hc : X.length + Z.length = cap) (hm : cap ≤ maxLen) : OwnB w base (.slice (some ⟨g, 0, none⟩) (dg X) cap) (trim X) := by
  have hd := dg_le X
  refine ⟨by rw [List.length_map]; simp, .inr ⟨g, cap, (X.map bv ++ Z).toArray, by rw [trim_len], hB, h, by rw [trim_len]; omega, hm, by simp; omega, ?_⟩⟩
  simp only [Nat.mul_one, trim_len]
  rw [List.take_append_of_le_length (by rw [List.length_map]; exact hd), trim, List.map_take]
theorem blk_setZ {w : World} {g k : Nat} {X : List UInt8} {Z : List Value} {y : UInt8} {t : TypeId} (h : Hid (Blk w g (splice (X.map bv ++ Z) k (bv y).cells.toList) t)) (hk : k < X.length) : Blk w g ((X.set k y).map bv ++ Z) t := by
  have hh := h.out
  rw [show (bv y).cells.toList = [bv y] from rfl, splice_set _ _ _ (by rw [List.length_append, List.length_map]; omega), List.set_append_left _ _ (by rw [List.length_map]; exact hk), ← List.map_set] at hh
  exact hh
theorem trim_dist {w : World} {B : Nat} {A : Option Addr} {p : List UInt8} (h : Rds w B A (p.map bv)) : Rds w B A ((trim p).map bv) := by
  have := h.take (dg p)
  rwa [← List.map_take] at this

set_option maxRecDepth 100000 in
set_option maxHeartbeats 8000000 in
theorem divide_any {B : Nat} (a b : List UInt8) (A A' : Option Addr) (ca c' : Nat) (w : World) (h : Rds w B A (a.map bv)) (h' : Rds w B A' (b.map bv)) (hB : B ≤ w.heap.size) (hla : a.length ≤ 100000) (hlb : b.length ≤ 100000) (hac : a.length ≤ ca) (hcm : ca ≤ maxLen) (hAn : A = none → ca = 0) (hbc : b.length ≤ c') (hb0 : 0 < dg b) (ht : PTab 0 w) :
    Calls Tryd.prog 67 #[.slice A a.length ca, .slice A' b.length c'] w fun e w' => ∃ vq vr, e = .returned (.tuple #[vq, vr]) ∧ OwnB w' w.heap.size vq (dq a b) ∧ OwnB w' w.heap.size vr (dr a b) ∧ Below w.heap.size w w' := by
  have TR : Hid (∀ W, Below w.heap.size w W → Calls Tryd.prog 21 #[.slice A a.length ca] W fun e w' => ∃ v', e = .returned v' ∧ OwnB w' W.heap.size v' (trim a) ∧ Below W.heap.size W w') := fun W hW =>
    trim6_any (B := B) a (.slice A a.length ca) W ⟨A, ca, rfl, hac, hcm, hAn, h.below (hW.mono hB)⟩ (Nat.le_trans hB hW.size) hla
  have CU : Hid (∀ W, Below w.heap.size w W → Calls Tryd.prog 101 #[.slice A' b.length c'] W fun e w' => e = .returned (.slice A' (dg b) c') ∧ w' = W) := fun W hW =>
    cut_any (B := B) b A' c' W (h'.below (hW.mono hB)) hbc (by omega)
  have hb := Lib.hid (trim_dist h')
  have hBs := Lib.hid hB
  have HM := Lib.hid (fun x y W (h : PTab 0 W) => mul_any x y W h)
  have HQ := Lib.hid (fun x y W (hy : y ≠ 0) (h : PTab 0 W) => quotient_any x y W hy h)
  have ht' := Lib.hid ht
  have hdal := dg_le a
  have hdbl := dg_le b
  have htl := trim_len a
  have htlb := trim_len b
  obtain ⟨n, hn0⟩ : ∃ n, n = a.length := ⟨_, rfl⟩
  obtain ⟨la, hla0⟩ : ∃ k, k = dg a := ⟨_, rfl⟩
  obtain ⟨db, hdb0⟩ : ∃ k, k = dg b := ⟨_, rfl⟩
  obtain ⟨nb, hnb0⟩ : ∃ k, k = b.length := ⟨_, rfl⟩
  have hn := Lib.hid hn0
  have hlah := Lib.hid hla0
  have hdbh := Lib.hid hdb0
  have htlh := Lib.hid htl
  have htlbh := Lib.hid htlb
  rw [← hla0] at hdal htl
  rw [← hdb0] at hdbl hb0 CU htlb
  rw [← hn0] at hla hac hdal TR ⊢
  rw [← hnb0] at hlb hbc hdbl CU ⊢
  have hnl : n ≤ 140737488355328 := by omega
  have MK := Lib.hid (fun W => run_make_row' (P := Tryd.prog) 22 5 (.int .u8 0) 1 Tryd.underlying22 infoByte rfl .i64 .i64 n (by omega) (by omega) W)
  clear h h' ht hn0 hla0 hdb0 hnb0 hAn hcm htl htlb
  go_enter Tryd.func67, Tryd.ntmps67
  go_wp2_with fail
  have hne : Nonempty (SOf fun _ : World => True) := ⟨⟨w, trivial⟩⟩
  go_cut [4, 5, 1] from 9 to 15 (fun vq vr vb W => Below w.heap.size w W ∧ (∃ g, vq = .slice (some ⟨g, 0, none⟩) n n ∧ w.heap.size ≤ g ∧ Blk W g ((List.replicate n (0 : UInt8)).map bv) 5 ∧ vr.ownBlock ≠ some g) ∧ OwnB W w.heap.size vr (trim a) ∧ vb = .slice A' db c')
  case first J KK hJ hKK =>
    refine wp_region_planH (fun _ => True) [0, 1, 3, 5] 6 (by kernel_rfl) (by kernel_rfl) (by kernel_rfl) (by kernel_rfl) (by intro c a d v w h; cases d <;> exact h) trivial ?_
    change wpPlanH _ _ _ _ _ _ _ _ _ w.drew
    iterate 4 (refine wpPlanH_plain rfl (fun K hK => ?_); go_simp; refine hK _ ?_; clear hK K)
    clear hne
    have hB0 : Below w.heap.size w w.drew := (Below.refl _ _).drew
    generalize w.drew = W0 at hB0 ⊢
    refine wpAnyH_machine (js := [2, 4, 6, 7, 8, 9]) [some 11, some 13, some 15, some 4, some 5, some 1] (by kernel_rfl) (by kernel_rfl) (by kernel_rfl) (fun c vals W => Below w.heap.size w W ∧ (c 2 = true → ∃ g, vals 2 = .slice (some ⟨g, 0, none⟩) n n ∧ w.heap.size ≤ g ∧ Blk W g ((List.replicate n (0 : UInt8)).map bv) 5 ∧ (c 4 = true → (vals 4).ownBlock ≠ some g)) ∧ (c 4 = true → OwnB W w.heap.size (vals 4) (trim a)) ∧ (c 6 = true → vals 6 = .slice A' db c') ∧ (c 7 = true → c 2 = true ∧ vals 7 = vals 2) ∧ (c 8 = true → c 4 = true ∧ vals 8 = vals 4) ∧ (c 9 = true → c 6 = true ∧ vals 9 = vals 6)) (fun _ _ _ _ => trivial) 6 (by decide) ⟨hB0, (fun h => by cases h), (fun h => by cases h), (fun h => by cases h), (fun h => by cases h), (fun h => by cases h), (fun h => by cases h)⟩ ?_ ?_
    · intro i hi c vals a2 W hRR hc hw hst K hK
      obtain ⟨hBw, h2, h4, h6, h7, h8, h9⟩ := hRR
      simp only [List.mem_cons, List.not_mem_nil, or_false] at hi
      rcases hi with rfl | rfl | rfl | rfl | rfl | rfl
      · have x1 : a2.eval (.tmp 10) = .int .i64 n := eval_tmp ((hst.other 10 (by kernel_rfl)).trans rfl)
        refine wpOp_make rfl rfl rfl x1 x1 (MK.out W) (hK _ _ ⟨hBw.alloc hBw.size _, ?_, ?_, ?_, ?_, ?_, ?_⟩)
        · intro _
          refine ⟨W.heap.size, by simp [updV], hBw.size, ?_, fun h => ?_⟩
          · rw [made_zeros, zeros_row]; exact Blk.new _ _ _
          · have h' : c 4 = true := by simpa [updC] using h
            simp only [updV]
            intro e
            have := (own_lt (h4 h') e).2
            omega
        · intro h; simpa [updV] using ownB_kp (h4 (by simpa [updC] using h)) ((Below.refl _ _).alloc (Nat.le_refl _) _)
        · intro h; simpa [updV] using h6 (by simpa [updC] using h)
        · intro h; have h' := h7 (by simpa [updC] using h); simp [hc] at h'
        · intro h; simpa [updV, updC] using h8 (by simpa [updC] using h)
        · intro h; simpa [updV, updC] using h9 (by simpa [updC] using h)
      · refine wpOp_call rfl rfl rfl (enter_of Tryd.func21 (by kernel_rfl) (by kernel_rfl)) #[.slice A n ca] ?_ ((TR.out _ hBw).mono ?_)
        · have x1 : a2.eval (.tmp 12) = .slice A n ca := eval_tmp ((hst.other 12 (by kernel_rfl)).trans rfl)
          simp only [List.map_toArray, List.map_cons, List.map_nil, x1]
        · rintro e w' ⟨v', rfl, ho, hb2⟩
          refine ⟨_, rfl, hK _ _ ⟨hBw.trans (hb2.mono hBw.size), ?_, ?_, ?_, ?_, ?_, ?_⟩⟩
          · intro h
            obtain ⟨g, e1, e2, e3, _⟩ := h2 (by simpa [updC] using h)
            refine ⟨g, by simpa [updV] using e1, e2, e3.below hb2 e3.lt, fun _ => ?_⟩
            simp only [updV]
            intro e
            have := (own_lt ho e).1
            have := e3.lt
            omega
          · intro _; simpa [updV] using ownB_low ho hBw.size
          · intro h; simpa [updV] using h6 (by simpa [updC] using h)
          · intro h; simpa [updV, updC] using h7 (by simpa [updC] using h)
          · intro h; have h' := h8 (by simpa [updC] using h); simp [hc] at h'
          · intro h; simpa [updV, updC] using h9 (by simpa [updC] using h)
      · refine wpOp_call rfl rfl rfl (enter_of Tryd.func101 (by kernel_rfl) (by kernel_rfl)) #[.slice A' nb c'] ?_ ((CU.out _ hBw).mono ?_)
        · have x1 : a2.eval (.tmp 14) = .slice A' nb c' := eval_tmp ((hst.other 14 (by kernel_rfl)).trans rfl)
          simp only [List.map_toArray, List.map_cons, List.map_nil, x1]
        · rintro e w' ⟨rfl, rfl⟩
          refine ⟨_, rfl, hK _ _ ⟨hBw, ?_, ?_, ?_, ?_, ?_, ?_⟩⟩
          · intro h; simpa [updV, updC] using h2 (by simpa [updC] using h)
          · intro h; simpa [updV] using h4 (by simpa [updC] using h)
          · intro _; simp [updV]
          · intro h; simpa [updV, updC] using h7 (by simpa [updC] using h)
          · intro h; simpa [updV, updC] using h8 (by simpa [updC] using h)
          · intro h; have h' := h9 (by simpa [updC] using h); simp [hc] at h'
      · refine wpOp_move rfl rfl _ (.inl rfl) (vals 2) (eval_tmp (hst.at_ 2 11 (by kernel_rfl) (by kernel_rfl) (hw 2 (by kernel_rfl)) (by kernel_rfl))) (hK _ _ ⟨hBw, ?_, ?_, ?_, ?_, ?_, ?_⟩)
        · intro h; simpa [updV, updC] using h2 (by simpa [updC] using h)
        · intro h; simpa [updV] using h4 (by simpa [updC] using h)
        · intro h; simpa [updV] using h6 (by simpa [updC] using h)
        · intro _; simp [updV, updC, hw 2 (by kernel_rfl)]
        · intro h; simpa [updV, updC] using h8 (by simpa [updC] using h)
        · intro h; simpa [updV, updC] using h9 (by simpa [updC] using h)
      · refine wpOp_move rfl rfl _ (.inl rfl) (vals 4) (eval_tmp (hst.at_ 4 13 (by kernel_rfl) (by kernel_rfl) (hw 4 (by kernel_rfl)) (by kernel_rfl))) (hK _ _ ⟨hBw, ?_, ?_, ?_, ?_, ?_, ?_⟩)
        · intro h; simpa [updV, updC] using h2 (by simpa [updC] using h)
        · intro h; simpa [updV] using h4 (by simpa [updC] using h)
        · intro h; simpa [updV] using h6 (by simpa [updC] using h)
        · intro h; simpa [updV, updC] using h7 (by simpa [updC] using h)
        · intro _; simp [updV, updC, hw 4 (by kernel_rfl)]
        · intro h; simpa [updV, updC] using h9 (by simpa [updC] using h)
      · refine wpOp_move rfl rfl _ (.inl rfl) (vals 6) (eval_tmp (hst.at_ 6 15 (by kernel_rfl) (by kernel_rfl) (hw 6 (by kernel_rfl)) (by kernel_rfl))) (hK _ _ ⟨hBw, ?_, ?_, ?_, ?_, ?_, ?_⟩)
        · intro h; simpa [updV, updC] using h2 (by simpa [updC] using h)
        · intro h; simpa [updV] using h4 (by simpa [updC] using h)
        · intro h; simpa [updV] using h6 (by simpa [updC] using h)
        · intro h; simpa [updV, updC] using h7 (by simpa [updC] using h)
        · intro h; simpa [updV, updC] using h8 (by simpa [updC] using h)
        · intro _; simp [updV, updC, hw 6 (by kernel_rfl)]
    · intro c vals W hc hRR
      obtain ⟨hBw, h2, h4, h6, h7, h8, h9⟩ := hRR
      have c2 := hc 2 (by decide)
      have c4 := hc 4 (by decide)
      have c6 := hc 6 (by decide)
      have e7 := (h7 (hc 7 (by decide))).2
      have e8 := (h8 (hc 8 (by decide))).2
      have e9 := (h9 (hc 9 (by decide))).2
      obtain ⟨g, g1, g2, g3, g4⟩ := h2 c2
      have hfin : Below w.heap.size w W ∧ (∃ g, vals 7 = .slice (some ⟨g, 0, none⟩) n n ∧ w.heap.size ≤ g ∧ Blk W g ((List.replicate n (0 : UInt8)).map bv) 5 ∧ (vals 8).ownBlock ≠ some g) ∧ OwnB W w.heap.size (vals 8) (trim a) ∧ vals 9 = .slice A' db c' := by
        rw [e7, e8, e9]
        exact ⟨hBw, ⟨g, g1, g2, g3, g4 c4⟩, h4 c4, h6 c6⟩
      clear hc h2 h4 h6 h7 h8 h9 e7 e8 e9 g1 g2 g3 g4 c2 c4 c6
      simp only [framedAll, List.map_cons, List.map_nil, Act.put, List.setIfInBounds_toArray, List.set_cons_zero, List.set_cons_succ]
      show KK _ W
      refine hKK _ _ (Met.intro (hJ _ _ ?_))
      repeat apply Exists.intro
      exact ⟨hfin, rfl⟩
  case rest =>
    obtain ⟨hB1, ⟨gq, rfl, hgq, hq, hap⟩, hor, rfl⟩ := hcut
    have hB1' := Lib.hid hB1
    have hq' := Lib.hid hq
    have hgqh := Lib.hid hgq
    have hor' := Lib.hid hor
    have hap' := Lib.hid hap
    obtain ⟨Ar, cr, rfl, hlr, hcr, _, hrr⟩ := own_form hor
    have hr0 := Lib.hid hrr
    rw [htlh.out, ← hlah.out] at hor' hlr hap' ⊢
    clear hB1 hq hgq hor hap hrr hne TR CU MK
    by_cases hlt : la < db
    · have hz : (la : Int) - (db : Int) < 0 := by omega
      have hzz : Hid (dq a b = [] ∧ dr a b = trim a) := by
        have e : dg a + 1 - dg b = 0 := by rw [← hlah.out, ← hdbh.out]; omega
        refine ⟨?_, ?_⟩
        · unfold dq; rw [e, dvd]
          have := trim_ext (p := List.replicate a.length 0) (q := []) (fun j => by rw [co_zeros, co_nil])
          rw [this]; rfl
        · unfold dr; rw [e, dvd, trim_trim]
      obtain ⟨z, hzd⟩ : ∃ z, z = (la : Int) - (db : Int) := ⟨_, rfl⟩
      rw [← hzd] at hz
      have hzd' := Lib.hid hzd.symm
      have hzw : IntKind.i64.wrap ((la : Int) - (db : Int)) = z := by rw [IntKind.wrap_i64]; omega
      have hzn : ¬ z ≥ 0 := by omega
      have hC1 : Hid (Calls Tryd.prog 101 #[.slice (some ⟨gq, 0, none⟩) n n] wc fun e w' => e = .returned (.slice (some ⟨gq, 0, none⟩) 0 n) ∧ w' = wc) := by
        have hrd := hq'.out.rds 0 n
        rw [List.drop_zero, List.take_of_length_le (by simp)] at hrd
        have := cut_any (List.replicate n (0 : UInt8)) (some ⟨gq, 0, none⟩) n wc hrd (by simp) (by simp; omega)
        rw [List.length_replicate, dg_congr (q := []) (fun j => by rw [co_zeros, co_nil])] at this
        exact this
      have hC2 : Hid (Calls Tryd.prog 101 #[.slice Ar la cr] wc fun e w' => e = .returned (.slice Ar la cr) ∧ w' = wc) := by
        have := cut_any (trim a) Ar cr wc hr0.out (by rw [htlh.out, ← hlah.out]; exact hlr) (by rw [htlh.out, ← hlah.out]; omega)
        rw [dg_trim, htlh.out, ← hlah.out] at this
        exact this
      clear hzd
      go_wp2_with fail
      go_loopw [6] (fun v wr => v = .int .i64 z ∧ wr = wc) (fun v _ => 0)
      case atStart => exact ⟨rfl, rfl⟩
      case round =>
        obtain ⟨rfl, rfl⟩ := hrel
        go_wp2_with fail
        refine hC1.out.mono ?_
        rintro e w8 ⟨rfl, rfl⟩
        go_wp2_with fail
        refine hC2.out.mono ?_
        rintro e w8 ⟨rfl, rfl⟩
        go_wp2_with fail
        go_ret2
        refine ⟨_, _, by first | rfl | (go_simp; done) | (go_simp; rfl), ?_, ?_, hB1'.out⟩
        · rw [hzz.out.1]
          have := own_shut (X := List.replicate n (0 : UInt8)) (Z := []) (cap := n) (by rw [List.append_nil]; exact hq'.out) hgqh.out (by simp) (by unfold maxLen; omega)
          rw [dg_congr (q := []) (fun j => by rw [co_zeros, co_nil]), trim_ext (p := List.replicate n (0 : UInt8)) (q := []) (fun j => by rw [co_zeros, co_nil])] at this
          exact this
        · rw [hzz.out.2]; exact hor'.out
    · have hle : db ≤ la := by omega
      have hap2 := hap'.out
      clear hap'
      obtain ⟨gr, cap, Z, hve, hgr, hkr, hlz, hcm⟩ := own_open hor'.out (by rw [htlh.out, ← hlah.out]; omega)
      rw [htlh.out, ← hlah.out] at hlz hve
      injection hve with e1 e2 e3
      subst e1
      subst e3
      have hgne : Hid (gr ≠ gq) := fun e => hap2 (by rw [e]; rfl)
      have hgr' := Lib.hid hgr
      have hkr' := Lib.hid hkr
      have hlz' := Lib.hid hlz
      have hcmh := Lib.hid hcm
      obtain ⟨k0, hk0⟩ : ∃ k0, k0 = la + 1 - db := ⟨_, rfl⟩
      have hzw : IntKind.i64.wrap ((la : Int) - (db : Int)) = (k0 : Int) - 1 := by rw [IntKind.wrap_i64]; omega
      obtain ⟨F, hF⟩ : ∃ F, F = dvd b k0 (List.replicate n (0 : UInt8)) (trim a) := ⟨_, rfl⟩
      have hF' := Lib.hid hF
      have hF1 : Hid (dq a b = trim F.1 ∧ dr a b = trim F.2) := by
        show _ ∧ _
        rw [hF, hk0, hlah.out, hdbh.out, hn.out]
        exact ⟨rfl, rfl⟩
      have hF2 : Hid (∀ k Q R, Q.length = n ∧ R.length = la ∧ dvd b k Q R = F → dvd b k Q R = F) := fun _ _ _ h => h.2.2
      have hst : Hid ((List.replicate n (0 : UInt8)).length = n ∧ (trim a).length = la ∧ dvd b k0 (List.replicate n (0 : UInt8)) (trim a) = F) := ⟨by simp, by rw [htlh.out, ← hlah.out], hF.symm⟩
      have hkn : k0 ≤ n := by omega
      have hkl : k0 + db ≤ la + 1 := by omega
      have hlan : la ≤ 100000 := by omega
      have hdn : db ≤ 100000 := by omega
      clear hF hF2 hgr hkr hlz hcm hor' hap2 hr0
      clear hk0 hlt hle hdal
      go_wp2_with fail
      go_loopw [6] (fun v wr => ∃ (k : Nat) (Q R : List UInt8), k ≤ k0 ∧ v = .int .i64 ((k : Int) - 1) ∧ Hid (Q.length = n ∧ R.length = la ∧ dvd b k Q R = F) ∧ Hid (Blk wr gq (Q.map bv) 5) ∧ Hid (Blk wr gr (R.map bv ++ Z) 5) ∧ Hid (Below w.heap.size w wr)) (fun v _ => (intOf v + 1).toNat)
      case atStart => exact ⟨k0, _, _, by omega, rfl, hst, hq', hkr', hB1'⟩
      case round =>
        clear hst hq' hkr' hB1'
        obtain ⟨k, Q, R, hk, rfl, hI, hQ, hR, hBw⟩ := hrel
        cases k with
        | zero =>
          rw [show (((0 : Nat) : Int) - 1) = -1 from rfl]
          have hend : Hid (F = (Q, R)) := hI.out.2.2.symm
          have hC1 : Hid (Calls Tryd.prog 101 #[.slice (some ⟨gq, 0, none⟩) n n] wr fun e w' => e = .returned (.slice (some ⟨gq, 0, none⟩) (dg Q) n) ∧ w' = wr) := by
            have hrd := hQ.out.rds 0 n
            rw [List.drop_zero, List.take_of_length_le (by rw [List.length_map, hI.out.1]; exact Nat.le_refl _)] at hrd
            have := cut_any Q (some ⟨gq, 0, none⟩) n wr hrd (by rw [hI.out.1]; exact Nat.le_refl _) (by rw [hI.out.1]; omega)
            rw [hI.out.1] at this
            exact this
          have hC2 : Hid (Calls Tryd.prog 101 #[.slice (some ⟨gr, 0, none⟩) la cr] wr fun e w' => e = .returned (.slice (some ⟨gr, 0, none⟩) (dg R) cr) ∧ w' = wr) := by
            have hrd := hR.out.rds 0 la
            rw [List.drop_zero, List.take_append_of_le_length (by rw [List.length_map, hI.out.2.1]; exact Nat.le_refl _), List.take_of_length_le (by rw [List.length_map, hI.out.2.1]; exact Nat.le_refl _)] at hrd
            have := cut_any R (some ⟨gr, 0, none⟩) cr wr hrd (by rw [hI.out.2.1]; exact hlr) (by rw [hI.out.2.1]; omega)
            rw [hI.out.2.1] at this
            exact this
          obtain ⟨dQ, hdQ⟩ : ∃ d, d = dg Q := ⟨_, rfl⟩
          obtain ⟨dR, hdR⟩ : ∃ d, d = dg R := ⟨_, rfl⟩
          have hdQ' := Lib.hid hdQ
          have hdR' := Lib.hid hdR
          rw [← hdQ] at hC1
          rw [← hdR] at hC2
          clear hdQ hdR
          go_wp2_with fail
          refine hC1.out.mono ?_
          rintro e w8 ⟨rfl, rfl⟩
          go_wp2_with fail
          refine hC2.out.mono ?_
          rintro e w8 ⟨rfl, rfl⟩
          go_wp2_with fail
          go_ret2
          refine ⟨_, _, by first | rfl | (go_simp; done) | (go_simp; rfl), ?_, ?_, hBw.out⟩
          · rw [hF1.out.1, hend.out, hdQ'.out]
            exact own_shut (Z := []) (by rw [List.append_nil]; exact hQ.out) hgqh.out (by rw [hI.out.1]; rfl) (by unfold maxLen; omega)
          · rw [hF1.out.2, hend.out, hdR'.out]
            exact own_shut hR.out hgr'.out (by rw [hI.out.2.1]; exact hlz'.out) hcmh.out
        | succ k =>
          have hnext : Hid (dvd b k (Q.set k (dvc b R k)) (rsub R b k (dvc b R k)) = F) := by have := hI.out.2.2; rw [dvd] at this; exact this
          have hQl := Lib.hid hI.out.1
          have hRl := Lib.hid hI.out.2.1
          rw [show (((k + 1 : Nat) : Int) - 1) = (k : Int) by omega]
          have hk1 : k < n := by omega
          have t0 : (k : Int) ≥ 0 := by omega
          have tk : (k : Int) < (n : Int) := by omega
          obtain ⟨s, hs0⟩ : ∃ s, s = k + db := ⟨_, rfl⟩
          obtain ⟨p, hp0⟩ : ∃ p, s = p + 1 := ⟨s - 1, by omega⟩
          have hpk : Hid (p = k + (dg b - 1)) := by show _ = _; rw [← hdbh.out]; omega
          have es : (k : Int) + (db : Int) = (s : Int) := by omega
          have ep : (s : Int) - 1 = (p : Int) := by omega
          have esw : IntKind.i64.wrap (s : Int) = (s : Int) := by rw [IntKind.wrap_i64]; omega
          have epw : IntKind.i64.wrap (p : Int) = (p : Int) := by rw [IntKind.wrap_i64]; omega
          have hkw : IntKind.i64.wrap ((k : Int) - 1) = (k : Int) - 1 := by rw [IntKind.wrap_i64]; omega
          have tp : (p : Int) < (la : Int) := by omega
          have tp0 : 0 ≤ (p : Int) := by omega
          have hX1 := at_co (p := R) (k := p) (by rw [hRl.out]; omega)
          have hcR := hR.out.cell (j := p) (v := bv (co R p)) (by rw [List.getElem?_append_left (by rw [List.length_map, hRl.out]; omega), List.getElem?_map, hX1]; rfl)
          have hy : Hid (Gf.mul (co R p) (Gf.inv (top b)) = dvc b R k) := by show _ = _; unfold dvc; rw [hpk.out]
          have LA : Hid (Calls Tryd.prog 103 #[.slice A' db c'] wr.drew fun e w' => e = .returned (bv (top b)) ∧ w' = wr.drew) := by
            have := last_any (trim b) A' c' wr.drew (hb.out.below (drewBelowB (hBw.out.mono hBs.out))) (by rw [htlbh.out, ← hdbh.out]; omega) (by rw [htlbh.out, ← hdbh.out]; omega)
            rw [htlbh.out, co_trim, ← hdbh.out] at this
            unfold top
            rw [← hdbh.out]
            exact this
          have QU := HQ.out (co R p) (top b) wr.drew (top_ne (by rw [← hdbh.out]; omega)) (ht'.out.below (drewBelowB hBw.out) ht'.out.1)
          rw [hy.out] at QU
          have QU' := Lib.hid QU
          obtain ⟨y, hyy⟩ : ∃ y, y = dvc b R k := ⟨_, rfl⟩
          have hyy' := Lib.hid hyy
          rw [← hyy] at QU' hnext
          have hfit : Hid (k + 1 ≤ (Q.map bv).length) := by show _ ≤ _; rw [List.length_map, hQl.out]; omega
          have hkQ : Hid (k < Q.length) := by show _ < _; rw [hQl.out]; omega
          clear QU hy hyy hX1 hI hs0 hp0
          generalize co R p = rp at *
          have LA2 := LA.out
          have QU2 := QU'.out
          generalize top b = tb at *
          clear LA QU'
          unfold bv at hcR LA2 QU2
          have zr : ∀ z : ExtOf wr.drew, z.world.cell? ⟨gr, p, none⟩ = some (.int .u8 (rp.toNat : Int)) := fun z => (Below.cell (p := ⟨gr, p, none⟩) (z.ext) hR.out.lt).trans hcR
          clear hcR
          go_wp2_with fail
          refine wp_region_planM [14] [(true, 0), (true, 1), (true, 2), (true, 3), (true, 4), (true, 5), (true, 6), (true, 7), (true, 8), (true, 9), (true, 10), (false, 11), (false, 12), (true, 13), (false, 14)] (by decide) (by kernel_rfl) (by kernel_rfl) (by decide) (by intro c a d v w h; cases d <;> exact h) ?_
          change wpPlanM _ _ _ _ _ _ wr.drew
          iterate 11 (refine wpPlanM_plain rfl (fun K hK => ?_); go_simp; refine hK _ ?_; clear hK K)
          clear zr
          refine wpPlanM_call rfl (fun K hK => ?_)
          go_wp2_with fail
          refine LA2.mono ?_
          rintro e w4 ⟨rfl, rfl⟩
          go_wp2_with fail
          refine planPostL_normal ⟨.inr (Below.refl _ _), hK _ _ ?_⟩
          clear hK K LA2
          refine wpPlanM_call rfl (fun K hK => ?_)
          go_wp2_with fail
          refine QU2.mono ?_
          rintro e w4 ⟨rfl, m4, rfl⟩
          go_wp2_with fail
          have hE : Ext wr.drew (wr.drewN (1 + m4)) := by
            have h := Below.refl wr.heap.size wr
            exact ⟨h.os, h.tape, h.output, h.size, h.block⟩
          refine planPostL_normal ⟨.inr hE, hK _ _ ?_⟩
          clear hE
          clear hK K QU2
          iterate 1 (refine wpPlanM_plain rfl (fun K hK => ?_); go_simp; refine hK _ ?_; clear hK K)
          refine wpPlanM_call rfl (fun K hK => ?_)
          refine wpList_blk_store rfl 5 _ _ rfl k (bv y) rfl rfl (show Blk (wr.drewN (1 + m4)) gq (Q.map bv) 5 from hQ.out) size_u8 hfit.out (one_u8 y) ?_
          intro w7 hw7 ho7
          refine wpList_end (planPostL_normal ⟨.inl (by decide), hK _ _ ?_⟩)
          clear hK K
          refine wpPlanM_nil ?_
          have hQ7 := Lib.hid (blk_set hw7 hkQ.out)
          have ho7' : Only gq wr w7 := ⟨ho7.os, ho7.tape, ho7.output, ho7.size, ho7.block⟩
          have hR7 := Lib.hid (hR.out.only ho7' hgne.out)
          have hB7 := Lib.hid (hBw.out.trans ((ho7'.below hgqh.out)))
          have hyq : Hid ((Q.set k y)[k]? = some y) := by show _ = _; rw [List.getElem?_set_self hkQ.out]
          clear hw7 ho7 ho7' hQ hR hBw
          have hQnl : Hid ((Q.set k y).length = n) := by show _ = _; rw [List.length_set]; exact hQl.out
          generalize Q.set k y = Q2 at *
          go_wp2_with fail
          go_loopw [41] (fun v wr => ∃ (i : Nat) (X : List UInt8), i ≤ db ∧ v = .int .i64 i ∧ Hid (X.length = la ∧ ∀ j, co X j = co R j ^^^ (if j < k + i then Gf.mul y (sh b k j) else 0)) ∧ Hid (Blk wr gq (Q2.map bv) 5) ∧ Hid (Blk wr gr (X.map bv ++ Z) 5) ∧ Hid (Below w.heap.size w wr)) (fun v _ => db - (intOf v).toNat)
          case atStart =>
            refine ⟨0, R, by omega, rfl, ⟨hRl.out, fun j => ?_⟩, hQ7, hR7, hB7⟩
            by_cases hj : j < k + 0
            · rw [if_pos hj]; unfold sh; rw [if_neg (by omega), Gf.mul_zero, UInt8.xor_zero]
            · rw [if_neg hj, UInt8.xor_zero]
          case round =>
            clear hQ7 hR7 hB7
            obtain ⟨i, X, hi, rfl, hX, hQ, hR, hBw⟩ := hrel
            by_cases hlti : i < db
            · have ti : (i : Int) < (db : Int) := by omega
              have ti0 : 0 ≤ (i : Int) := by omega
              obtain ⟨q, hq0⟩ : ∃ q, q = k + i := ⟨_, rfl⟩
              have eq1 : (k : Int) + (i : Int) = (q : Int) := by omega
              have hqn : q < la := by omega
              have tq : (q : Int) < (la : Int) := by omega
              have tq0 : 0 ≤ (q : Int) := by omega
              have eqw : IntKind.i64.wrap (q : Int) = (q : Int) := by rw [IntKind.wrap_i64]; omega
              have hqh := Lib.hid hq0
              have hxb := at_co (p := trim b) (k := i) (by rw [htlbh.out, ← hdbh.out]; exact hlti)
              rw [co_trim] at hxb
              have hX1 := at_co (p := X) (k := q) (by rw [hX.out.1]; omega)
              obtain ⟨bd, rfl, hbb, hcb⟩ := (hb.out.below (hBw.out.mono hBs.out)).look (k := i) (u := bv (co b i)) (by rw [List.getElem?_map, hxb]; rfl)
              have hcX := hR.out.cell (j := q) (v := bv (co X q)) (by rw [List.getElem?_append_left (by rw [List.length_map, hX.out.1]; omega), List.getElem?_map, hX1]; rfl)
              have hcQ := hQ.out.cell (j := k) (v := bv y) (by rw [List.getElem?_map, hyq.out]; rfl)
              have hnx : Hid ((X.set q (co X q ^^^ Gf.mul y (co b i))).length = la ∧ ∀ j, co (X.set q (co X q ^^^ Gf.mul y (co b i))) j = co R j ^^^ (if j < k + (i + 1) then Gf.mul y (sh b k j) else 0)) := by
                refine ⟨by rw [List.length_set]; exact hX.out.1, fun j => ?_⟩
                rw [co_set (by rw [hX.out.1]; exact hqn), hX.out.2 q, hX.out.2 j]
                by_cases hj : j = q
                · rw [if_pos hj, hj, if_neg (by rw [hqh.out]; omega), if_pos (by rw [hqh.out]; omega), UInt8.xor_zero]
                  unfold sh
                  rw [if_pos (by rw [hqh.out]; omega), show q - k = i by rw [hqh.out]; omega]
                · rw [if_neg hj]
                  have hq1 := hqh.out
                  by_cases hj2 : j < k + i
                  · rw [if_pos hj2, if_pos (by omega)]
                  · rw [if_neg hj2, if_neg (by omega)]
              have hkX : Hid (q < X.length) := by show _ < _; rw [hX.out.1]; omega
              have hfit : Hid (q + 1 ≤ (X.map bv ++ Z).length) := by show _ ≤ _; rw [List.length_append, List.length_map, hX.out.1]; omega
              have hM := HM.out y (co b i) wr.drew (ht'.out.below (drewBelowB hBw.out) ht'.out.1)
              obtain ⟨m, hm⟩ : ∃ m, m = Gf.mul y (co b i) := ⟨_, rfl⟩
              rw [← hm] at hM hnx
              have hxx := u8_xor_bv (co X q) m
              clear hm hxb hX1 hq0
              generalize co b i = u' at *
              generalize co X q = v at *
              generalize v ^^^ m = y2 at *
              unfold bv at hcb hcX hM hcQ
              have zx : ∀ z : ExtOf wr.drew, z.world.cell? ⟨gr, q, none⟩ = some (.int .u8 (v.toNat : Int)) := fun z => (Below.cell (p := ⟨gr, q, none⟩) (z.ext) hR.out.lt).trans hcX
              have zq : ∀ z : ExtOf wr.drew, z.world.cell? ⟨gq, k, none⟩ = some (.int .u8 (y.toNat : Int)) := fun z => (Below.cell (p := ⟨gq, k, none⟩) (z.ext) hQ.out.lt).trans hcQ
              clear hcX hcQ
              go_wp2_with fail
              clear hcb
              refine wp_region_planM [14] [(true, 0), (true, 1), (true, 2), (true, 3), (true, 4), (true, 5), (true, 6), (true, 7), (true, 8), (true, 9), (true, 10), (false, 11), (true, 12), (true, 13), (false, 14)] (by decide) (by kernel_rfl) (by kernel_rfl) (by decide) (by intro c a d v w h; cases d <;> exact h) ?_
              change wpPlanM _ _ _ _ _ _ wr.drew
              iterate 11 (refine wpPlanM_plain rfl (fun K hK => ?_); go_simp; refine hK _ ?_; clear hK K)
              clear zx zq
              refine wpPlanM_call rfl (fun K hK => ?_)
              go_wp2_with fail
              refine hM.mono ?_
              rintro e w4 ⟨rfl, m4, rfl⟩
              go_wp2_with fail
              have hE : Ext wr.drew (wr.drewN (1 + m4)) := by
                have h := Below.refl wr.heap.size wr
                exact ⟨h.os, h.tape, h.output, h.size, h.block⟩
              refine planPostL_normal ⟨.inr hE, hK _ _ ?_⟩
              clear hE
              clear hK K hM
              iterate 2 (refine wpPlanM_plain rfl (fun K hK => ?_); go_simp; refine hK _ ?_; clear hK K)
              refine wpPlanM_call rfl (fun K hK => ?_)
              refine wpList_blk_store rfl 5 _ _ rfl q (bv y2) rfl rfl (show Blk (wr.drewN (1 + m4)) gr (X.map bv ++ Z) 5 from hR.out) size_u8 hfit.out (one_u8 y2) ?_
              intro w7 hw7 ho7
              refine wpList_end (planPostL_normal ⟨.inl (by decide), hK _ _ ?_⟩)
              clear hK K
              refine wpPlanM_nil ?_
              have hR7 := Lib.hid (blk_setZ hw7 hkX.out)
              have ho7' : Only gr wr w7 := ⟨ho7.os, ho7.tape, ho7.output, ho7.size, ho7.block⟩
              have hQ7 := Lib.hid (hQ.out.only ho7' (fun e => hgne.out e.symm))
              have hB7 := Lib.hid (hBw.out.trans ((ho7'.below hgr'.out)))
              clear hw7 ho7 ho7'
              go_wp2_with fail
              go_roundw
              case rel => exact ⟨i + 1, X.set q y2, by omega, by go_num, hnx, hQ7, hR7, hB7⟩
              case measure => simp [intOf]; omega
            · have ti : ¬ (i : Int) < (db : Int) := by omega
              have hXR : Hid (X = rsub R b k (dvc b R k)) := by
                refine list_ext (by rw [rsub_len, hX.out.1, hRl.out]) fun j => ?_
                rw [hX.out.2 j, co_rsub _ (by rw [hRl.out, ← hdbh.out]; omega), ← hyy'.out]
                by_cases hj : j < k + i
                · rw [if_pos hj]
                · rw [if_neg hj, sh_above (by rw [← hdbh.out]; omega), Gf.mul_zero]
              have hfinal : Hid (Q2.length = n ∧ X.length = la ∧ dvd b k Q2 X = F) := ⟨hQnl.out, hX.out.1, by
                rw [hXR.out, ← hyy'.out]; exact hnext.out⟩
              go_wp2_with fail
              go_roundw
              case rel => exact ⟨k, Q2, X, by omega, by first | rfl | (go_simp; done), hfinal, hQ, hR, hBw⟩
              case measure => simp [intOf]
end Go.Proofs.YtbilfhipmebmlaaDoor

namespace Go.Proofs.YtbilfhipmebmlaaDoor
set_option linter.unusedVariables false
set_option linter.unusedSimpArgs false
open Go.RowKit

set_option maxRecDepth 100000 in
set_option maxHeartbeats 1000000 in
theorem divmod_long (n n' c c' : Nat) (A A' : Option Addr) (w : World) (hl : 256 < n ∨ 256 < n') :
    Calls Tryd.prog 26 #[.slice A n c, .slice A' n' c'] w fun e w' => e = .returned (.tuple #[.slice none 0 0, .slice none 0 0, .int .i64 2]) ∧ w' = w := by
  by_cases h1 : 256 < n
  · have ta : (n : Int) > 256 := by omega
    clear hl
    go_enter Tryd.func26, Tryd.ntmps26
    go_wp2_with fail
    go_ret3
    exact ⟨rfl, rfl⟩
  · have ta : ¬ (n : Int) > 256 := by omega
    have tb : (n' : Int) > 256 := by omega
    clear hl
    go_enter Tryd.func26, Tryd.ntmps26
    go_wp2_with fail
    go_ret3
    exact ⟨rfl, rfl⟩

set_option maxRecDepth 100000 in
set_option maxHeartbeats 1000000 in
theorem divmod_zero {B : Nat} (b : List UInt8) (n c c' : Nat) (A A' : Option Addr) (w : World) (h' : Rds w B A' (b.map bv)) (hla : n ≤ 256) (hlb : b.length ≤ 256) (hz : dg b = 0) :
    Calls Tryd.prog 26 #[.slice A n c, .slice A' b.length c'] w fun e w' => e = .returned (.tuple #[.slice none 0 0, .slice none 0 0, .int .i64 1]) ∧ w' = w := by
  have hD := Lib.hid (degree_any b A' c' w h' (by omega))
  rw [hz] at hD
  have hD' : Hid (Calls Tryd.prog 18 #[.slice A' b.length c'] w fun e w' => e = .returned (.int .i64 (-1)) ∧ w' = w) := hD.out
  have ta : ¬ (n : Int) > 256 := by omega
  have tb : ¬ (b.length : Int) > 256 := by omega
  clear h' hz hD
  generalize b.length = n' at *
  go_enter Tryd.func26, Tryd.ntmps26
  go_wp2_with fail
  refine hD'.out.mono ?_
  rintro e w1 ⟨rfl, rfl⟩
  go_wp2_with fail
  go_ret3
  exact ⟨rfl, rfl⟩

set_option maxRecDepth 100000 in
set_option maxHeartbeats 1000000 in
theorem divmod_ok {B : Nat} (a b : List UInt8) (A A' : Option Addr) (c c' : Nat) (w : World) (h : Rds w B A (a.map bv)) (h' : Rds w B A' (b.map bv)) (hB : B ≤ w.heap.size) (hla : a.length ≤ 256) (hlb : b.length ≤ 256) (hac : a.length ≤ c) (hcm : c ≤ maxLen) (hAn : A = none → c = 0) (hbc : b.length ≤ c') (hb0 : 0 < dg b) (ht : PTab 0 w) :
    Calls Tryd.prog 26 #[.slice A a.length c, .slice A' b.length c'] w fun e w' => ∃ vq vr, e = .returned (.tuple #[vq, vr, .int .i64 0]) ∧ OwnB w' w.heap.size vq (dq a b) ∧ OwnB w' w.heap.size vr (dr a b) ∧ Below w.heap.size w w' := by
  have hD := Lib.hid (degree_any b A' c' w h' (by omega))
  have hV := Lib.hid (divide_any a b A A' c c' w h h' hB (by omega) (by omega) hac hcm hAn hbc hb0 ht)
  have ta : ¬ (a.length : Int) > 256 := by omega
  have tb : ¬ (b.length : Int) > 256 := by omega
  clear h h' ht hac hcm hAn hbc
  obtain ⟨d, hd⟩ : ∃ d : Nat, dg b = d + 1 := ⟨dg b - 1, by omega⟩
  rw [hd, show (((d + 1 : Nat) : Int) - 1) = (d : Int) by omega] at hD
  have td : ¬ (d : Int) < 0 := by omega
  clear hb0 hd
  generalize a.length = n at *
  generalize b.length = n' at *
  go_enter Tryd.func26, Tryd.ntmps26
  go_wp2_with fail
  refine hD.out.mono ?_
  rintro e w1 ⟨rfl, rfl⟩
  go_wp2_with fail
  refine hV.out.mono ?_
  rintro e w2 ⟨vq, vr, rfl, h1, h2, h3⟩
  have hfin := Lib.hid (And.intro h1 (And.intro h2 h3))
  clear h1 h2 h3 hD hV
  go_wp2_with fail
  go_ret3
  exact ⟨_, _, by first | rfl | (go_simp; done) | (go_simp; rfl), hfin.out.1, hfin.out.2.1, hfin.out.2.2⟩

set_option maxRecDepth 100000 in
set_option maxHeartbeats 4000000 in
theorem others_any {B gX gW : Nat} (xs V : List UInt8) (i n c nv cw : Nat) (A Aw : Option Addr) (w : World) (hX : Blk w gX [.slice A n c] 22) (hW : Blk w gW [.slice Aw nv cw] 22) (h : Rds w B A (xs.map bv)) (hB : B ≤ w.heap.size) (hn : n = xs.length) (hnv : nv = V.length) (hV : Rds w w.heap.size Aw (V.map bv)) (hVc : nv ≤ cw) (hcm : cw ≤ maxLen) (hAn : Aw = none → cw = 0) (hVl : nv ≤ 100000) (hi : i < n) (ht : PTab 0 w) :
    Calls Tryd.prog 104 #[.int .i64 i, .pointer (some ⟨gW, 0, none⟩), .pointer (some ⟨gX, 0, none⟩)] w fun e w' => ∃ v, e = .returned v ∧ OwnB w' w.heap.size v (dq V [co xs i, 1]) ∧ Below w.heap.size w w' := by
  have hx := at_co (p := xs) (k := i) (by rw [← hn]; exact hi)
  obtain ⟨ad, rfl, hab, hca⟩ := h.look (k := i) (u := bv (co xs i)) (by rw [List.getElem?_map, hx]; rfl)
  have RT := Lib.hid (root_any (co xs i) w.drew)
  obtain ⟨gR, hgR⟩ : ∃ g, g = w.drew.heap.size := ⟨_, rfl⟩
  rw [← hgR] at RT
  have hgR' := Lib.hid hgR
  have DV : Hid (∀ W, Below w.heap.size w W → OwnB W gR (.slice (some ⟨gR, 0, none⟩) 2 2) [co xs i, 1] → Calls Tryd.prog 67 #[.slice Aw nv cw, .slice (some ⟨gR, 0, none⟩) 2 2] W fun e w' => ∃ vq vr, e = .returned (.tuple #[vq, vr]) ∧ OwnB w' W.heap.size vq (dq V [co xs i, 1]) ∧ OwnB w' W.heap.size vr (dr V [co xs i, 1]) ∧ Below W.heap.size W w') := fun W hW hO => by
    have := divide_any (B := W.heap.size) V [co xs i, 1] Aw (some ⟨gR, 0, none⟩) cw 2 W ((hV.below hW).more hW.size) (Rds.own hO) (Nat.le_refl _) (by rw [← hnv]; exact hVl) (by simp) (by rw [← hnv]; exact hVc) hcm hAn (by simp) (by rw [dg_root]; omega) (ht.below hW ht.1)
    rw [← hnv] at this
    exact this
  have hlt : (i : Int) < (n : Int) := by omega
  have t0 : 0 ≤ (i : Int) := by omega
  have hcX := hX.cell (j := 0) (v := .slice (some ad) n c) rfl
  have hcW := hW.cell (j := 0) (v := .slice Aw nv cw) rfl
  unfold bv at hca RT
  have zi : ∀ z : ExtOf w.drew, z.world.cell? (ad.add i) = some (.int .u8 ((co xs i).toNat : Int)) := fun z => (Below.cell (p := ad.add i) (z.ext) (by rw [add_block]; exact Nat.lt_of_lt_of_le hab hB)).trans hca
  have zX : ∀ z : ExtOf w.drew, z.world.cell? ⟨gX, 0, none⟩ = some (.slice (some ad) n c) := fun z => (Below.cell (p := ⟨gX, 0, none⟩) (z.ext) hX.lt).trans hcX
  have zW : ∀ z : ExtOf w.drew, z.world.cell? ⟨gW, 0, none⟩ = some (.slice Aw nv cw) := fun z => (Below.cell (p := ⟨gW, 0, none⟩) (z.ext) hW.lt).trans hcW
  clear hX hW h hn hnv hV hVc hcm hAn hVl hx hca hcX hcW hgR ht hi
  generalize co xs i = x at *
  go_enter Tryd.func104, Tryd.ntmps104
  go_wp2_with fail
  refine wp_region_planM [] [(true, 0), (true, 1), (true, 2), (true, 3), (true, 4), (false, 5), (false, 6), (true, 7), (true, 8), (true, 9), (true, 10), (true, 11)] (by decide) (by kernel_rfl) (by kernel_rfl) (by decide) (by intro c a d v w h; cases d <;> exact h) ?_
  change wpPlanM _ _ _ _ _ _ w.drew
  iterate 5 (refine wpPlanM_plain rfl (fun K hK => ?_); go_simp; refine hK _ ?_; clear hK K)
  clear zi zX zW
  refine wpPlanM_call rfl (fun K hK => ?_)
  go_wp2_with fail
  refine RT.out.mono ?_
  rintro e w4 ⟨rfl, ho4, hb4⟩
  have hB4 : Hid (Below w.heap.size w w4) := (drewBelowB (Below.refl w.heap.size w)).trans (by have h := hb4; rw [hgR'.out] at h; exact h)
  have DV4 := Lib.hid (DV.out w4 hB4.out ho4)
  go_wp2_with fail
  have hE4 : Ext w.drew w4 := by have h := hb4; rw [hgR'.out] at h; exact h
  refine planPostL_normal ⟨.inr hE4, hK _ _ ?_⟩
  clear hK K DV RT ho4 hb4 hE4
  refine wpPlanM_call rfl (fun K hK => ?_)
  go_wp2_with fail
  refine DV4.out.mono ?_
  rintro e w5 ⟨vq, vr, rfl, ho5, _, hb5⟩
  have hfin := Lib.hid (And.intro (ownB_low ho5 hB4.out.size) (hB4.out.trans (hb5.mono hB4.out.size)))
  have hE : Ext w4 w5 := hb5
  go_wp2_with fail
  refine planPostL_normal ⟨.inr hE, hK _ _ ?_⟩
  clear hK K DV4 ho5 hb5 hE
  iterate 5 (refine wpPlanM_plain rfl (fun K hK => ?_); go_simp; refine hK _ ?_; clear hK K)
  refine wpPlanM_nil ?_
  go_wp2_with fail
  go_ret
  exact ⟨_, by first | rfl | (go_simp; done) | (go_simp; rfl), hfin.out.1, hfin.out.2⟩
end Go.Proofs.YtbilfhipmebmlaaDoor
