/-
  Contracts of stage 3: Clone of digests, Top. Contracts of stage 3: Append. Contracts of stage 3: Append, in one form.
-/
import Derived.Test.YtlgokfgiemaklaaDoorBwl
import Derived.Test.YtlgokfgiemaklaaDoorMjo
import Derived.Test.YtlgokfgiemaklaaDoorRfm
import Derived.Deep.CutRange
namespace Go.Proofs.YtlgokfgiemaklaaDoor
set_option linter.unusedVariables false
set_option linter.unusedSimpArgs false
open Go.RowKit

theorem run_eql_nil {P : Program} (t e : TypeId) (a : Option Addr) (l c : Nat) (h : P.underlying t = some (.slice e)) (W : World) : (binOp .eql t (.slice a l c) (.slice none 0 0)).run P W = .ok (.bool a.isNone) W := by
  simp only [binOp]
  simp [run_equal_slice_nil W t e a l c h]
/-- Two results, the first one in a block. -/
theorem ret_cell_tmp {P : Program} {fn : Func} {p q : Tmp} {ty : TypeId} (hr : fn.results = #[.cell p ty, .tmp q]) (tmps : Array Value) (w : World) {g : Nat} {L : List Value} {t : TypeId} (v : Value) (hp : tmps.getD p undef = .pointer (some ⟨g, 0, none⟩)) (hq : tmps.getD q undef = v) (hb : Blk w g L t)
    (d : TypeDesc) (hu : P.underlying ty = some d) (hd : d.isRow = true) (hi : (P.info? ty).map (·.size) = some L.length) : (results fn tmps).run P w = .ok (.tuple #[.agg L.toArray, v]) w := by
  have hv := run_loadVar_mid (P := P) w g 0 ty L d (hb.range 0 L (by simp)) hu hd hi
  have hp' : tmps[p]?.getD undef = .pointer (some ⟨g, 0, none⟩) := by simpa using hp
  have hq' : tmps[q]?.getD undef = v := by simpa using hq
  simp [results, hr, hp', hq', asAddr, hv]

set_option maxRecDepth 100000 in
set_option maxHeartbeats 1000000 in
theorem clone_any (L : List (List UInt8)) (A : Option Addr) (n c : Nat) (w : World) (hd : D16 L) (hn : n = L.length) (hA : Dg w A L) (hAn : A = none → c = 0) (hl : L.length ≤ 1000000) :
    Calls Tryd.prog 54 #[.slice A n c] w fun e w' => (∃ v, e = .returned v ∧ OwnD w' w.heap.size v L) ∧ Below w.heap.size w w' := by
  cases A with
  | none =>
    have hl0 : L = [] := by
      by_cases hl : L = []
      · exact hl
      · have hfl := flat_len L hd
        obtain ⟨ad, hh, _⟩ := hA (by
          intro h0
          have h1 := congrArg List.length h0
          rw [List.length_map, hfl] at h1
          have := List.length_pos_iff.2 hl
          simp at h1
          omega)
        cases hh
    subst hl0
    obtain rfl : n = 0 := hn
    obtain rfl : c = 0 := hAn rfl
    have hO := ownD_nil w w.heap.size
    have hE := run_eql_nil (P := Tryd.prog) 22 31 none 0 0 Tryd.underlying22
    clear hA hAn hd
    go_enter Tryd.func54, Tryd.ntmps54
    go_wp2_with fail
    go_ret
    exact ⟨⟨_, rfl, hO⟩, Below.refl _ _⟩
  | some ad =>
    have hO := ownD_made w w.heap.size (Nat.le_refl _)
    have hA1 := hA.on ((Below.refl w.heap.size w).alloc (Nat.le_refl _) (.cells #[] 31))
    have hb1 : Below w.heap.size w (w.alloc (.cells #[] 31)) := (Below.refl w.heap.size w).alloc (Nat.le_refl _) _
    have hs1 : w.heap.size ≤ (w.alloc (.cells #[] 31)).heap.size := by simp
    have hO' := Lib.hid hO
    have hA1' := Lib.hid hA1
    have hb1' := Lib.hid hb1
    have hs1' := Lib.hid hs1
    have hn' := Lib.hid hn
    have hE : ∀ W, (binOp .eql 22 (.slice (some ad) n c) (.slice none 0 0)).run Tryd.prog W = .ok (.bool false) W := run_eql_nil (P := Tryd.prog) 22 31 (some ad) n c Tryd.underlying22
    clear hO hA1 hb1 hs1 hA hAn hn
    go_enter Tryd.func54, Tryd.ntmps54
    go_wp2_with (refine push_digs rfl _ _ rfl w.heap.size _ [] L hd _ (some ad) n c hn'.out (fun h => by cases h) rfl rfl hA1'.out hO'.out (by simp; omega) hs1'.out ?_; intro v4 w4 ho4 hb4 hgr4)
    rw [List.nil_append] at ho4
    have hend := hb1'.out.trans hb4
    go_ret
    exact ⟨⟨_, rfl, ho4⟩, hend⟩

/-- What Top returns: the root, or nothing. -/
def topD (s : Int) (L : List (List UInt8)) : List UInt8 := if pkOk s L.length = true then (if s = 0 then emp else jn L.dropLast (L.getD (L.length - 1) z16)) else z16
def topE (s : Int) (n : Nat) : Nat := if pkOk s n = true then 0 else 1

set_option maxRecDepth 100000 in
set_option maxHeartbeats 1000000 in
theorem top_no (s : Int) (A : Option Addr) (n c : Nat) (w : World) (h : pkOk s n = false) :
    Calls Tryd.prog 26 #[pkv s A n c] w fun e w' => e = .returned (.tuple #[av z16, .int .i64 1]) ∧ Below w.heap.size w w' := by
  have HO : Hid (∀ W, Calls Tryd.prog 51 #[pkv s A n c] W fun e w' => e = .returned (.bool false) ∧ Below W.heap.size W w') := fun W => by have := wellFormed_any s A n c W; rwa [h] at this
  have hz := Lib.hid (size_dig16 (z16.map bv) rfl)
  have hzo := av_one z16
  unfold pkv av at *
  obtain ⟨W2, hW2⟩ : ∃ W2, W2 = (w.alloc (.cells #[.int .i64 s, .slice A n c] 43)).alloc (.cells (bz 16).toArray 31) := ⟨_, rfl⟩
  have hB2 : Hid (Below w.heap.size w W2) := by show Below _ _ _; rw [hW2]; exact ((Below.refl _ _).alloc (Nat.le_refl _) _).alloc (by simp) _
  have hR2 : Hid (Blk W2 (w.heap.size + 1) (bz 16) 31) := by show Blk _ _ _ _; rw [hW2]; exact (Blk.new _ _ _).at (by simp)
  have hW2' := Lib.hid hW2
  clear hW2 h
  go_enter Tryd.func26, Tryd.ntmps26
  go_wp2_with fail
  generalize hg : (w.alloc _).alloc _ = Wg
  have hgW : W2 = Wg := by rw [← hg, hW2'.out]; rfl
  clear hg hW2'
  subst hgW
  refine (HO.out _).mono ?_
  rintro e w3 ⟨rfl, hb3⟩
  have hR3 := hR2.out.below hb3 hR2.out.lt
  have hB3 := hB2.out.trans (hb3.mono hB2.out.size)
  go_wp2_with (refine wpList_row_store rfl 31 _ _ rfl (z16.map bv) rfl rfl hR3 hz.out rfl hzo ?_; intro w4 hW4 ho4)
  exact bodyPost_ret (ret_cell_tmp rfl _ w4 (g := w.heap.size + 1) _ rfl rfl hW4.out (.array 16 5) arr_dig rfl hz.out) rfl ⟨rfl, hB3.trans (ho4.below (by omega))⟩

set_option maxRecDepth 100000 in
set_option maxHeartbeats 1000000 in
theorem top_zero (A : Option Addr) (c : Nat) (w : World) (ht : Tab 2 w) :
    Calls Tryd.prog 26 #[pkv 0 A 0 c] w fun e w' => e = .returned (.tuple #[av emp, .int .i64 0]) ∧ Below w.heap.size w w' := by
  have HO : Hid (∀ W, Calls Tryd.prog 51 #[pkv 0 A 0 c] W fun e w' => e = .returned (.bool true) ∧ Below W.heap.size W w') := fun W => by
    have := wellFormed_any 0 A 0 c W
    rwa [show pkOk 0 0 = true by unfold pkOk; simp [pop_zero]] at this
  have hRt : Hid (∀ W, Tab 2 W → Calls Tryd.prog 15 #[.slice none 0 0] W fun e w' => e = .returned (av emp) ∧ Below W.heap.size W w') := fun W hT => by
    have h := root_any [] none 0 W (by intro d hd; cases hd) (Nat.le_refl _) (by simp) (by intro h; exact absurd rfl h) hT
    rw [rt_nil] at h
    exact h
  have hel : Hid (emp.length = 16) := hashOf_len 32 []
  generalize emp = Z at hRt hel ⊢
  have hzl : (Z.map bv).length = 16 := by rw [List.length_map, hel.out]
  have hz := Lib.hid (size_dig16 (Z.map bv) hzl)
  have hzo := av_one Z
  unfold pkv av at *
  obtain ⟨W2, hW2⟩ : ∃ W2, W2 = (w.alloc (.cells #[.int .i64 0, .slice A 0 c] 43)).alloc (.cells (bz 16).toArray 31) := ⟨_, rfl⟩
  have hB2 : Hid (Below w.heap.size w W2) := by show Below _ _ _; rw [hW2]; exact ((Below.refl _ _).alloc (Nat.le_refl _) _).alloc (by simp) _
  have hR2 : Hid (Blk W2 (w.heap.size + 1) (bz 16) 31) := by show Blk _ _ _ _; rw [hW2]; exact (Blk.new _ _ _).at (by simp)
  have hK2 : Hid (Blk W2 w.heap.size [.int .i64 0, .slice A 0 c] 43) := by show Blk _ _ _ _; rw [hW2]; exact (Blk.new _ [_, _] _).alloc _
  have hT2 := Lib.hid (ht.on hB2.out)
  have hW2' := Lib.hid hW2
  clear hW2 ht
  go_enter Tryd.func26, Tryd.ntmps26
  go_wp2_with fail
  generalize hg : (w.alloc _).alloc _ = Wg
  have hgW : W2 = Wg := by rw [← hg, hW2'.out]; rfl
  clear hg hW2'
  subst hgW
  refine (HO.out _).mono ?_
  rintro e w3 ⟨rfl, hb3⟩
  have hR3 := Lib.hid (hR2.out.below hb3 hR2.out.lt)
  have hK3 := hK2.out.below hb3 hK2.out.lt
  have c0 := hK3.cell (j := 0) rfl
  have hB3 := Lib.hid (hB2.out.trans (hb3.mono hB2.out.size))
  have hT3 := Lib.hid (hT2.out.on hb3)
  clear hb3 hK3
  go_wp2_with fail
  refine (hRt.out _ hT3.out).mono ?_
  rintro e w4 ⟨rfl, hb4⟩
  have hR4 := hR3.out.below hb4 hR3.out.lt
  have hB4 := hB3.out.trans (hb4.mono hB3.out.size)
  go_wp2_with (refine wpList_row_store rfl 31 _ _ rfl (Z.map bv) rfl rfl hR4 hz.out (by rw [hzl]; rfl) hzo ?_; intro w5 hW5 ho5)
  exact bodyPost_ret (ret_cell_tmp rfl _ w5 (g := w.heap.size + 1) _ rfl rfl hW5.out (.array 16 5) arr_dig rfl hz.out) rfl ⟨rfl, hB4.trans (ho5.below (by omega))⟩

set_option maxRecDepth 100000 in
set_option maxHeartbeats 2000000 in
theorem top_pos (z : Nat) (L : List (List UInt8)) (A : Option Addr) (n k c : Nat) (d : List UInt8) (w : World) (hz0 : 0 < z) (hok : pkOk z n = true) (hnL : n = L.length) (hk : n = k + 1) (hd : D16 L) (hdk : L[k]? = some d) (hA : Dg w A L) (hc : n ≤ c) (hn6 : n ≤ 1000000) (ht : Tab 2 w) :
    Calls Tryd.prog 26 #[pkv z A n c] w fun e w' => e = .returned (.tuple #[av (jn (L.take k) d), .int .i64 0]) ∧ Below w.heap.size w w' := by
  have HO : Hid (∀ W, Calls Tryd.prog 51 #[pkv z A n c] W fun e w' => e = .returned (.bool true) ∧ Below W.heap.size W w') := fun W => by
    have := wellFormed_any z A n c W
    rwa [hok] at this
  obtain ⟨ad, rfl, hab, hdl, _⟩ := hA.at hd hdk
  have HJ : Hid (∀ W, Below w.heap.size w W → Calls Tryd.prog 53 #[.slice (some ad) k c, av d] W fun e w' => e = .returned (av (jn (L.take k) d)) ∧ Below W.heap.size W w') := fun W hB =>
    mjoined_any (L.take k) d (some ad) k c W (hd.take k) hdl (by rw [List.length_take]; omega) (by omega) ((hA.on hB).take hd k) (ht.on hB)
  have hLd : Hid (∀ W, Below w.heap.size w W → ∀ j v, (d.map bv)[j]? = some v → W.cell? ((ad.add (k * 16)).add j) = some v) := fun W hB => by
    obtain ⟨ad', he, _, _, hcc⟩ := (hA.on hB).at hd hdk
    injection he with he
    subst he
    exact hcc
  have hjl := jn_len hdl (L.take k)
  generalize jn (L.take k) d = Z at HJ hjl ⊢
  have hzl : (Z.map bv).length = 16 := by rw [List.length_map, hjl]
  have hz := Lib.hid (size_dig16 (Z.map bv) hzl)
  have hzo := av_one Z
  have hd1 : (d.map bv).length = 16 := by rw [List.length_map, hdl]
  have hds := Lib.hid (size_dig16 (d.map bv) hd1)
  have t0 : ((z : Int) == 0) = false := by simp; omega
  have e1 : (n : Int) - 1 = (k : Int) := by omega
  have b1 : (k : Int) < (n : Int) := by omega
  have b2 : (k : Int) ≤ (c : Int) := by omega
  unfold pkv av at *
  obtain ⟨W2, hW2⟩ : ∃ W2, W2 = (w.alloc (.cells #[.int .i64 z, .slice (some ad) n c] 43)).alloc (.cells (bz 16).toArray 31) := ⟨_, rfl⟩
  have hB2 : Hid (Below w.heap.size w W2) := by show Below _ _ _; rw [hW2]; exact ((Below.refl _ _).alloc (Nat.le_refl _) _).alloc (by simp) _
  have hR2 : Hid (Blk W2 (w.heap.size + 1) (bz 16) 31) := by show Blk _ _ _ _; rw [hW2]; exact (Blk.new _ _ _).at (by simp)
  have hK2 : Hid (Blk W2 w.heap.size [.int .i64 z, .slice (some ad) n c] 43) := by show Blk _ _ _ _; rw [hW2]; exact (Blk.new _ [_, _] _).alloc _
  have hW2' := Lib.hid hW2
  clear hW2 ht hok hnL hk hd hdk hA hc hdl hjl
  go_enter Tryd.func26, Tryd.ntmps26
  go_wp2_with fail
  generalize hg : (w.alloc _).alloc _ = Wg
  have hgW : W2 = Wg := by rw [← hg, hW2'.out]; rfl
  clear hg hW2'
  subst hgW
  refine (HO.out _).mono ?_
  rintro e w3 ⟨rfl, hb3⟩
  have hR3 := Lib.hid (hR2.out.below hb3 hR2.out.lt)
  have hK3 := Lib.hid (hK2.out.below hb3 hK2.out.lt)
  have c0 := hK3.out.cell (j := 0) rfl
  have c1 := hK3.out.cell (j := 1) rfl
  have hB3 := Lib.hid (hB2.out.trans (hb3.mono hB2.out.size))
  clear hb3
  go_wp2_with fail
  have hd3 : Below w3.heap.size w3 w3.drew := (Below.refl _ _).drew
  have q1 : ∀ x : ROf (Below w3.heap.size) w3.drew, x.world.cell? ⟨w.heap.size, 1, none⟩ = some (.slice (some ad) n c) := fun x => (hK3.out.below (hd3.trans x.rel) hK3.out.lt).cell (j := 1) rfl
  refine wp_region_planR (R := Below w3.heap.size) (fun w => Below.refl _ w) (fun _ _ _ h k => h.trans k) [10, 11] [(true, 0), (true, 1), (true, 2), (true, 3), (true, 4), (true, 5), (true, 6), (true, 7), (true, 8), (false, 9), (false, 10), (false, 11)] (by decide) (by kernel_rfl) (by kernel_rfl) (by decide) (by intro c a d v w h; cases d <;> exact h) ?_
  change wpPlanR _ _ _ _ _ _ _ w3.drew
  have hne : Nonempty (ROf (Below w3.heap.size) w3.drew) := ⟨⟨_, Below.refl _ _⟩⟩
  iterate 8 (refine wpPlanR_plain rfl (fun K hK => ?_); go_simp; refine hK _ ?_; clear hK K)
  refine wpPlanR_runW rfl (by rfl) _ (fun x => load_arr_run 31 _ rfl (ad.add (k * 16)) rfl (d.map bv) 16 5 x.world (hLd.out _ (hB3.out.trans ((hd3.trans x.rel).mono hB3.out.size))) arr_dig hds.out) ?_
  refine wpPlanR_call rfl (fun K hK => ?_)
  go_wp2_with fail
  refine (HJ.out _ (hB3.out.trans (hd3.mono hB3.out.size))).mono ?_
  rintro e w5 ⟨rfl, hb5⟩
  go_wp2_with fail
  refine planPostR_normal ⟨.inr hb5, hK _ _ ?_⟩
  clear hK K
  have hR5 := Lib.hid (hR3.out.below (hd3.trans hb5) hR3.out.lt)
  refine wpPlanR_call rfl (fun K hK => ?_)
  refine wpList_row_store rfl 31 _ _ rfl (Z.map bv) rfl rfl hR5.out hz.out (by rw [hzl]; rfl) hzo ?_
  intro w6 hW6 ho6
  refine wpList_end (planPostR_normal ⟨.inl (by first | trivial | simp), hK _ _ ?_⟩)
  clear hK K
  refine wpPlanR_call rfl (fun K hK => ?_)
  go_wp2_with fail
  refine planPostR_normal ⟨.inl (by first | trivial | simp), hK _ _ ?_⟩
  clear hK K
  refine wpPlanR_nil ?_
  go_wp2_with fail
  exact bodyPost_ret (ret_cell_tmp rfl _ w6 (g := w.heap.size + 1) _ rfl rfl hW6.out (.array 16 5) arr_dig rfl hz.out) rfl ⟨rfl, (hB3.out.trans ((hd3.trans hb5).mono hB3.out.size)).trans (ho6.below (by omega))⟩
end Go.Proofs.YtlgokfgiemaklaaDoor

namespace Go.Proofs.YtlgokfgiemaklaaDoor
set_option linter.unusedVariables false
set_option linter.unusedSimpArgs false
open Go.RowKit

theorem u64_not (z : Nat) (h : z < 18446744073709551616) : bits BinOp.xor IntKind.u64 IntKind.u64.max (z : Int) = ((18446744073709551615 - z : Nat) : Int) := by
  have h2 : (BitVec.ofInt 64 (z : Int)).toNat = z := by
    rw [BitVec.ofInt_natCast, BitVec.toNat_ofNat]; exact Nat.mod_eq_of_lt (by omega)
  have h1 : BitVec.ofInt 64 IntKind.u64.max = BitVec.allOnes 64 := by decide
  show IntKind.u64.wrap ((BitVec.ofInt 64 IntKind.u64.max ^^^ BitVec.ofInt 64 (z : Int)).toNat : Int) = _
  rw [h1, BitVec.allOnes_xor, BitVec.toNat_not, h2, IntKind.wrap_u64]
  omega
theorem size_peaks : (Tryd.prog.info? 43).map (·.size) = some 2 := by kernel_rfl
theorem row_peaks : ∃ d, Tryd.prog.underlying 43 = some d ∧ d.isRow = true := ⟨_, Tryd.underlying43, rfl⟩
theorem one_peaks (s : Int) (A : Option Addr) (n c : Nat) : ∀ u ∈ [Value.int .i64 s, Value.slice A n c], u.oneCell' = true := by
  intro u hu
  simp only [List.mem_cons, List.not_mem_nil, or_false] at hu
  rcases hu with rfl | rfl <;> rfl
theorem below3 (w : World) (a b c : Obj) : Below w.heap.size w (((w.alloc a).alloc b).alloc c) :=
  (((Below.refl _ _).alloc (Nat.le_refl _) _).alloc (by simp) _).alloc (by simp; omega) _
theorem TabU.below {g : Nat} {tab : List Nat} {w w' : World} (h : TabU g tab w) (hp : 0 < tab.length) (hb : Below w.heap.size w w') : TabU g tab w' := fun j hj => by
  have h0 := h 0 hp
  obtain ⟨o, ho, _⟩ := cells_of_cell h0
  exact (hb.cell (p := ⟨g, j, none⟩) (Array.getElem?_eq_some_iff.1 ho).1).trans (h j hj)


set_option maxRecDepth 100000 in
set_option maxHeartbeats 1000000 in
theorem append_no (s : Int) (A : Option Addr) (n c : Nat) (leaf : List UInt8) (w : World) (h : pkOk s n = false) :
    Calls Tryd.prog 25 #[pkv s A n c, av leaf] w fun e w' => e = .returned (.tuple #[.agg #[.int .i64 0, .slice none 0 0], .int .i64 1]) ∧ Below w.heap.size w w' := by
  have HO : Hid (∀ W, Calls Tryd.prog 51 #[pkv s A n c] W fun e w' => e = .returned (.bool false) ∧ Below W.heap.size W w') := fun W => by have := wellFormed_any s A n c W; rwa [h] at this
  obtain ⟨pd, hpd, hpr⟩ := row_peaks
  have hzo := one_peaks 0 none 0 0
  obtain ⟨lv, hlv⟩ : ∃ lv, lv = leaf.map bv := ⟨_, rfl⟩
  unfold pkv av at *
  rw [← hlv]
  obtain ⟨W3, hW3⟩ : ∃ W3, W3 = ((w.alloc (.cells #[.int .i64 s, .slice A n c] 43)).alloc (.cells lv.toArray 31)).alloc (.cells #[.int .i64 0, .slice none 0 0] 43) := ⟨_, rfl⟩
  have hB3 : Hid (Below w.heap.size w W3) := by show Below _ _ _; rw [hW3]; exact below3 _ _ _ _
  have hR3 : Hid (Blk W3 (w.heap.size + 1 + 1) [.int .i64 0, .slice none 0 0] 43) := by show Blk _ _ _ _; rw [hW3]; exact (Blk.new _ [_, _] _).at (by simp)
  have hK3 : Hid (Blk W3 w.heap.size [.int .i64 s, .slice A n c] 43) := by show Blk _ _ _ _; rw [hW3]; exact ((Blk.new _ [_, _] _).alloc _).alloc _
  have hW3' := Lib.hid hW3
  clear hW3 h hlv
  go_enter Tryd.func25, Tryd.ntmps25
  go_wp2_with fail
  generalize hg : ((w.alloc _).alloc _).alloc _ = Wg
  have hgW : W3 = Wg := by rw [← hg, hW3'.out]
  clear hg hW3'
  subst hgW
  refine (HO.out _).mono ?_
  rintro e w4 ⟨rfl, hb4⟩
  have hR4 := Lib.hid (hR3.out.below hb4 hR3.out.lt)
  have hK4 := hK3.out.below hb4 hK3.out.lt
  have c0 := hK4.cell (j := 0) rfl
  have hB4 := Lib.hid (hB3.out.trans (hb4.mono hB3.out.size))
  clear hb4 hK4
  go_wp2_with (refine wpList_row_store rfl 43 _ _ rfl [.int .i64 0, .slice none 0 0] rfl rfl hR4.out size_peaks rfl hzo ?_; intro w5 hW5 ho5)
  exact bodyPost_ret (ret_cell_tmp rfl _ w5 (g := w.heap.size + 1 + 1) _ rfl rfl hW5.out pd hpd hpr size_peaks) rfl ⟨rfl, hB4.out.trans (ho5.below (by omega))⟩

set_option maxRecDepth 100000 in
set_option maxHeartbeats 1000000 in
theorem append_limit (s : Int) (A : Option Addr) (n c : Nat) (leaf : List UInt8) (w : World) (h : pkOk 1099511627776 n = true) :
    Calls Tryd.prog 25 #[pkv 1099511627776 A n c, av leaf] w fun e w' => e = .returned (.tuple #[.agg #[.int .i64 0, .slice none 0 0], .int .i64 2]) ∧ Below w.heap.size w w' := by
  have HO : Hid (∀ W, Calls Tryd.prog 51 #[pkv 1099511627776 A n c] W fun e w' => e = .returned (.bool true) ∧ Below W.heap.size W w') := fun W => by have := wellFormed_any 1099511627776 A n c W; rwa [h] at this
  obtain ⟨pd, hpd, hpr⟩ := row_peaks
  have hzo := one_peaks 0 none 0 0
  obtain ⟨lv, hlv⟩ : ∃ lv, lv = leaf.map bv := ⟨_, rfl⟩
  unfold pkv av at *
  rw [← hlv]
  obtain ⟨W3, hW3⟩ : ∃ W3, W3 = ((w.alloc (.cells #[.int .i64 1099511627776, .slice A n c] 43)).alloc (.cells lv.toArray 31)).alloc (.cells #[.int .i64 0, .slice none 0 0] 43) := ⟨_, rfl⟩
  have hB3 : Hid (Below w.heap.size w W3) := by show Below _ _ _; rw [hW3]; exact below3 _ _ _ _
  have hR3 : Hid (Blk W3 (w.heap.size + 1 + 1) [.int .i64 0, .slice none 0 0] 43) := by show Blk _ _ _ _; rw [hW3]; exact (Blk.new _ [_, _] _).at (by simp)
  have hK3 : Hid (Blk W3 w.heap.size [.int .i64 1099511627776, .slice A n c] 43) := by show Blk _ _ _ _; rw [hW3]; exact ((Blk.new _ [_, _] _).alloc _).alloc _
  have hW3' := Lib.hid hW3
  clear hW3 h hlv
  go_enter Tryd.func25, Tryd.ntmps25
  go_wp2_with fail
  generalize hg : ((w.alloc _).alloc _).alloc _ = Wg
  have hgW : W3 = Wg := by rw [← hg, hW3'.out]
  clear hg hW3'
  subst hgW
  refine (HO.out _).mono ?_
  rintro e w4 ⟨rfl, hb4⟩
  have hR4 := Lib.hid (hR3.out.below hb4 hR3.out.lt)
  have hK4 := hK3.out.below hb4 hK3.out.lt
  have c0 := hK4.cell (j := 0) rfl
  have hB4 := Lib.hid (hB3.out.trans (hb4.mono hB3.out.size))
  clear hb4 hK4
  go_wp2_with (refine wpList_row_store rfl 43 _ _ rfl [.int .i64 0, .slice none 0 0] rfl rfl hR4.out size_peaks rfl hzo ?_; intro w5 hW5 ho5)
  exact bodyPost_ret (ret_cell_tmp rfl _ w5 (g := w.heap.size + 1 + 1) _ rfl rfl hW5.out pd hpd hpr size_peaks) rfl ⟨rfl, hB4.out.trans (ho5.below (by omega))⟩

set_option maxRecDepth 100000 in
set_option maxHeartbeats 1500000 in
theorem append_none (z t : Nat)  (M : List (List UInt8)) (leaf Z : List UInt8) (w : World) (hz : z < 1099511627776) (ht0 : t + 0 = 0)  (hM6 : M.length ≤ 1000000) (hok : pkOk z 0 = true) (hleaf : leaf.length = 16) (hZ : Z.length = 16) (hM : D16 M)
    (HT : Hid (∀ W, Below w.heap.size w W → Calls Tryd.prog 52 #[.int .u64 ((18446744073709551615 - z : Nat) : Int)] W fun e w' => e = .returned (.int .i64 t) ∧ w' = W))
    (HJ : Hid (∀ W, Below w.heap.size w W → Calls Tryd.prog 53 #[.slice none 0 0, av leaf] W fun e w' => e = .returned (av Z) ∧ Below W.heap.size W w'))
    (HC : Hid (∀ W, Below w.heap.size w W → Calls Tryd.prog 54 #[.slice none 0 0] W fun e w' => (∃ v, e = .returned v ∧ OwnD w' W.heap.size v M) ∧ Below W.heap.size W w')) :
    Calls Tryd.prog 25 #[pkv z none 0 0, av leaf] w fun e w' => (∃ v, e = .returned (.tuple #[.agg #[.int .i64 ((z + 1 : Nat) : Int), v], .int .i64 0]) ∧ OwnD w' w.heap.size v (M ++ [Z])) ∧ Below w.heap.size w w' := by
  have HO : Hid (∀ W, Calls Tryd.prog 51 #[pkv z none 0 0] W fun e w' => e = .returned (.bool true) ∧ Below W.heap.size W w') := fun W => by have := wellFormed_any z none 0 0 W; rwa [hok] at this
  obtain ⟨pd, hpd, hpr⟩ := row_peaks
  have hzl : (Z.map bv).length = 16 := by rw [List.length_map, hZ]
  have hzs := Lib.hid (size_dig16 (Z.map bv) hzl)
  have hzo := av_one Z
  have hll : (leaf.map bv).length = 16 := by rw [List.length_map, hleaf]
  have hls := Lib.hid (size_dig16 (leaf.map bv) hll)
  obtain ⟨lv, hlv⟩ : ∃ lv, lv = leaf.map bv := ⟨_, rfl⟩
  have t0 : ((z : Int) == 1099511627776) = false := by simp; omega
  have e1 : (0 : Int) - (t : Int) = (0 : Int) := by omega
  have e2 : ((z + 1 : Nat) : Int) = (z : Int) + 1 := by omega
  have ex := u64_not z (by omega)
  have ew : IntKind.i64.wrap (0 : Int) = (0 : Int) := by rw [IntKind.wrap_i64]; omega
  unfold pkv av at *
  rw [← hlv]
  obtain ⟨W3, hW3⟩ : ∃ W3, W3 = ((w.alloc (.cells #[.int .i64 z, .slice none 0 0] 43)).alloc (.cells lv.toArray 31)).alloc (.cells #[.int .i64 0, .slice none 0 0] 43) := ⟨_, rfl⟩
  have hB3 : Hid (Below w.heap.size w W3) := by show Below _ _ _; rw [hW3]; exact below3 _ _ _ _
  have hR3 : Hid (Blk W3 (w.heap.size + 1 + 1) [.int .i64 0, .slice none 0 0] 43) := by show Blk _ _ _ _; rw [hW3]; exact (Blk.new _ [_, _] _).at (by simp)
  have hL3 : Hid (Blk W3 (w.heap.size + 1) (leaf.map bv) 31) := by show Blk _ _ _ _; rw [hW3, ← hlv]; exact ((Blk.new _ _ _).at (by simp)).alloc _
  have hK3 : Hid (Blk W3 w.heap.size [.int .i64 z, .slice none 0 0] 43) := by show Blk _ _ _ _; rw [hW3]; exact ((Blk.new _ [_, _] _).alloc _).alloc _
  have hW3' := Lib.hid hW3
  have hM' := Lib.hid hM
  have hM6' := Lib.hid hM6
  have hZ' := Lib.hid hZ
  clear hW3 hok hleaf hZ hM hM6 hlv
  go_enter Tryd.func25, Tryd.ntmps25
  go_wp2_with fail
  generalize hg : ((w.alloc _).alloc _).alloc _ = Wg
  have hgW : W3 = Wg := by rw [← hg, hW3'.out]
  clear hg hW3'
  subst hgW
  refine (HO.out _).mono ?_
  rintro e w4 ⟨rfl, hb4⟩
  have hR4 := Lib.hid (hR3.out.below hb4 hR3.out.lt)
  have hK4 := Lib.hid (hK3.out.below hb4 hK3.out.lt)
  have hL4 := Lib.hid (hL3.out.below hb4 hL3.out.lt)
  have c0 := hK4.out.cell (j := 0) rfl
  have hB4 := Lib.hid (hB3.out.trans (hb4.mono hB3.out.size))
  clear hb4 hR3 hK3 hL3 hB3
  go_wp2_with fail
  have hd4 : Below w4.heap.size w4 w4.drew := (Below.refl _ _).drew
  have q0 : ∀ x : ROf (Below w4.heap.size) w4.drew, x.world.cell? ⟨w.heap.size, 0, none⟩ = some (.int .i64 z) := fun x => (hK4.out.below (hd4.trans x.rel) hK4.out.lt).cell (j := 0) rfl
  have q1 : ∀ x : ROf (Below w4.heap.size) w4.drew, x.world.cell? ⟨w.heap.size, 1, none⟩ = some (.slice none 0 0) := fun x => (hK4.out.below (hd4.trans x.rel) hK4.out.lt).cell (j := 1) rfl
  have hne : Nonempty (ROf (Below w4.heap.size) w4.drew) := ⟨⟨_, Below.refl _ _⟩⟩
  refine wp_region_planR (R := Below w4.heap.size) (fun w => Below.refl _ w) (fun _ _ _ h k => h.trans k) [] [(true, 0), (true, 1), (true, 2), (true, 3), (true, 4), (true, 5), (true, 6), (false, 7), (true, 8), (true, 9)] (by decide) (by kernel_rfl) (by kernel_rfl) (by decide) (by intro c a d v w h; cases d <;> exact h) ?_
  change wpPlanR _ _ _ _ _ _ _ w4.drew
  iterate 7 (refine wpPlanR_plain rfl (fun K hK => ?_); go_simp; refine hK _ ?_; clear hK K)
  refine wpPlanR_call rfl (fun K hK => ?_)
  go_wp2_with fail
  refine (HT.out _ (hB4.out.trans (hd4.mono hB4.out.size))).mono ?_
  rintro e w5 ⟨rfl, hw5⟩
  have hw6 := hw5.symm
  clear hw5
  subst hw6
  go_wp2_with fail
  refine planPostR_normal ⟨.inr (Below.refl _ _), hK _ _ ?_⟩
  clear hK K
  iterate 2 (refine wpPlanR_plain rfl (fun K hK => ?_); go_simp; refine hK _ ?_; clear hK K)
  refine wpPlanR_nil ?_
  go_wp2_with fail
  have hR5 := Lib.hid (hR4.out.below hd4 hR4.out.lt)
  have hK5 := Lib.hid (hK4.out.below hd4 hK4.out.lt)
  have hL5 := Lib.hid (hL4.out.below hd4 hL4.out.lt)
  have hB5 := Lib.hid (hB4.out.trans (hd4.mono hB4.out.size))
  clear q0 q1 hne hd4 hR4 hK4 hL4 hB4 c0
  generalize w4.drew = w5 at hR5 hK5 hL5 hB5 ⊢
  go_cut [7] from 27 to 32 (fun v W => ∃ g, v = .pointer (some ⟨g, 0, none⟩) ∧ w5.heap.size ≤ g ∧ Blk W g (Z.map bv) 31 ∧ Below w5.heap.size w5 W)
  case first J KK hJ hKK =>
    have hdw : Below w5.heap.size w5 w5.drew := (Below.refl _ _).drew
    have hne : Nonempty (SOf (fun W => Below w5.heap.size w5 W)) := ⟨⟨_, hdw⟩⟩
    have q1 : ∀ x : SOf (fun W => Below w5.heap.size w5 W), x.world.cell? ⟨w.heap.size, 1, none⟩ = some (.slice none 0 0) := fun x => (hK5.out.below x.meets hK5.out.lt).cell (j := 1) rfl
    refine wp_region_planH (fun W => Below w5.heap.size w5 W) [0, 1, 2, 3, 4] 3 (by kernel_rfl) (by kernel_rfl) (by kernel_rfl) (by kernel_rfl) (by intro c a d v w h; cases d <;> exact h) hdw ?_
    change wpPlanH _ _ _ _ _ _ _ _ _ w5.drew
    iterate 4 (refine wpPlanH_plain rfl (fun K hK => ?_); go_simp; refine hK _ ?_; clear hK K)
    refine wpPlanH_runW rfl (by rfl) _ (fun x => load_run 31 _ rfl (w.heap.size + 1) 0 rfl (leaf.map bv) (.array 16 5) arr_dig rfl hls.out x.world ((hL5.out.below x.meets hL5.out.lt).range 0 _ (take_all0 _))) ?_
    clear hne q1
    have hdw2 := Lib.hid hdw
    clear hdw
    generalize w5.drew = Wd at hdw2 ⊢
    refine wpAnyH_each (rs := [5, 6]) (by kernel_rfl) (by decide) (fun K hK q hq => ?_)
    simp only [List.mem_cons, List.not_mem_nil, or_false] at hq
    rcases hq with rfl | rfl
    · refine wpOp_listed rfl ?_
      go_wp2_with fail
      refine (HJ.out _ (hB5.out.trans (hdw2.out.mono hB5.out.size))).mono ?_
      rintro e w6 ⟨rfl, hb6⟩
      go_wp2_with fail
      have hb6' := hdw2.out.trans (hb6.mono hdw2.out.size)
      refine postH_normal (hK _ _ _ hb6' ?_)
      clear hK K
      refine wpAnyH_each (rs := [6]) (by kernel_rfl) (by decide) (fun K hK q hq => ?_)
      obtain rfl := List.mem_singleton.1 hq
      refine wpOp_listed rfl ?_
      go_wp2_with fail
      have hb7 : Below w5.heap.size w5 (w6.alloc (.cells (bz 16).toArray 31)) := hb6'.trans ((Below.refl _ _).alloc hb6'.size _)
      refine postH_normal (hK _ _ _ hb7 ?_)
      clear hK K
      have hN7 := Lib.hid (Blk.new w6 (bz 16) 31)
      refine wpAnyH_each (rs := [7]) (by kernel_rfl) (by decide) (fun K hK q hq => ?_)
      obtain rfl := List.mem_singleton.1 hq
      refine wpOp_listed rfl ?_
      refine wpList_row_store rfl 31 _ _ rfl (Z.map bv) rfl rfl hN7.out hzs.out (by rw [hzl]; rfl) hzo ?_
      intro w8 hW8 ho8
      have hb8 : Below w5.heap.size w5 w8 := hb7.trans (ho8.below hb6'.size)
      refine wpList_end (postH_normal (hK _ _ _ hb8 ?_))
      clear hK K
      refine wpAnyH_done (by kernel_rfl) ?_ _
      simp only [Act.put, List.setIfInBounds_toArray, List.set_cons_zero, List.set_cons_succ]
      show KK _ w8
      refine hKK _ _ (Met.intro (hJ _ _ ?_))
      repeat apply Exists.intro
      exact ⟨⟨w6.heap.size, rfl, hb6'.size, hW8.out, hb8⟩, rfl⟩
    · refine wpOp_listed rfl ?_
      go_wp2_with fail
      have hb6 : Below w5.heap.size w5 (Wd.alloc (.cells (bz 16).toArray 31)) := hdw2.out.trans ((Below.refl _ _).alloc hdw2.out.size _)
      refine postH_normal (hK _ _ _ hb6 ?_)
      clear hK K
      have hN6 := Lib.hid (Blk.new Wd (bz 16) 31)
      obtain ⟨W6, hW6⟩ : ∃ W6, W6 = Wd.alloc (.cells (bz 16).toArray 31) := ⟨_, rfl⟩
      rw [← hW6] at hN6 hb6
      generalize hg : Wd.alloc _ = Wg
      have hgW : W6 = Wg := by rw [← hg, hW6]; rfl
      clear hg hW6
      subst hgW
      have hb6' := Lib.hid hb6
      clear hb6
      refine wpAnyH_each (rs := [5]) (by kernel_rfl) (by decide) (fun K hK q hq => ?_)
      obtain rfl := List.mem_singleton.1 hq
      refine wpOp_listed rfl ?_
      go_wp2_with fail
      refine (HJ.out _ (hB5.out.trans (hb6'.out.mono hB5.out.size))).mono ?_
      rintro e w7 ⟨rfl, hb7⟩
      go_wp2_with fail
      have hb7' := hb6'.out.trans (hb7.mono hb6'.out.size)
      refine postH_normal (hK _ _ _ hb7' ?_)
      clear hK K
      have hN7 := hN6.out.below hb7 hN6.out.lt
      refine wpAnyH_each (rs := [7]) (by kernel_rfl) (by decide) (fun K hK q hq => ?_)
      obtain rfl := List.mem_singleton.1 hq
      refine wpOp_listed rfl ?_
      refine wpList_row_store rfl 31 _ _ rfl (Z.map bv) rfl rfl hN7 hzs.out (by rw [hzl]; rfl) hzo ?_
      intro w8 hW8 ho8
      have hb8 : Below w5.heap.size w5 w8 := hb7'.trans (ho8.below hdw2.out.size)
      refine wpList_end (postH_normal (hK _ _ _ hb8 ?_))
      clear hK K
      refine wpAnyH_done (by kernel_rfl) ?_ _
      simp only [Act.put, List.setIfInBounds_toArray, List.set_cons_zero, List.set_cons_succ]
      show KK _ w8
      refine hKK _ _ (Met.intro (hJ _ _ ?_))
      repeat apply Exists.intro
      exact ⟨⟨Wd.heap.size, rfl, hdw2.out.size, hW8.out, hb8⟩, rfl⟩
  case rest =>
    obtain ⟨g1, hv1, hg1s, hG1, hbc⟩ := hcut
    subst hv1
    have hR6 := Lib.hid (hR5.out.below hbc hR5.out.lt)
    have hK6 := Lib.hid (hK5.out.below hbc hK5.out.lt)
    have hB6 := Lib.hid (hB5.out.trans (hbc.mono hB5.out.size))
    have hG1' := Lib.hid hG1
    have hg1n0 : Hid (w.heap.size + 1 + 1 < g1) := Nat.lt_of_lt_of_le hR5.out.lt hg1s
    clear hR5 hK5 hL5 hB5 hbc hG1 hg1s
    go_wp2_with fail
    have hdw : Gr (w.heap.size + 1 + 1) wc wc.drew := Gr.of ((Below.refl _ _).drew)
    have hne : Nonempty (SOf (fun W => Gr (w.heap.size + 1 + 1) wc W)) := ⟨⟨_, hdw⟩⟩
    have q0 : ∀ x : SOf (fun W => Gr (w.heap.size + 1 + 1) wc W), x.world.cell? ⟨w.heap.size, 0, none⟩ = some (.int .i64 z) := fun x => (hK6.out.gr x.meets (by omega)).cell (j := 0) rfl
    have q1 : ∀ x : SOf (fun W => Gr (w.heap.size + 1 + 1) wc W), x.world.cell? ⟨w.heap.size, 1, none⟩ = some (.slice none 0 0) := fun x => (hK6.out.gr x.meets (by omega)).cell (j := 1) rfl
    have hg1n : Hid (g1 ≠ w.heap.size + 1 + 1) := by have := hg1n0.out; show _ ≠ _; omega
    refine wp_region_planH (fun W => Gr (w.heap.size + 1 + 1) wc W) [0, 1, 2, 3, 4, 5, 6, 8] 6 (by kernel_rfl) (by kernel_rfl) (by kernel_rfl) (by kernel_rfl) (by intro c a d v w h; cases d <;> exact h) hdw ?_
    change wpPlanH _ _ _ _ _ _ _ _ _ wc.drew
    iterate 7 (refine wpPlanH_plain rfl (fun K hK => ?_); go_simp; refine hK _ ?_; clear hK K)
    refine wpPlanH_runW rfl (by rfl) _ (fun x => load_run 31 _ rfl g1 0 rfl (Z.map bv) (.array 16 5) arr_dig rfl hzs.out x.world ((hG1'.out.gr x.meets hg1n.out).range 0 _ (take_all0 _))) ?_
    clear hne q0 q1
    have hdw2 : Hid (Below wc.heap.size wc wc.drew) := (Below.refl _ _).drew
    have hrs : Hid (w.heap.size + 1 + 1 < wc.heap.size) := hR6.out.lt
    have hBw : Hid (∀ W, Below wc.heap.size wc W → Below w.heap.size w W) := fun W hg => hB6.out.trans (hg.mono hB6.out.size)
    clear hdw
    generalize wc.drew = Wd at hdw2 ⊢
    refine wpAnyH_each (rs := [7, 9]) (by kernel_rfl) (by decide) (fun K hK q hq => ?_)
    simp only [List.mem_cons, List.not_mem_nil, or_false] at hq
    rcases hq with rfl | rfl
    · refine wpOp_listed rfl ?_
      go_wp2_with fail
      refine (HC.out _ (hBw.out _ hdw2.out)).mono ?_
      rintro e w6 ⟨⟨v, rfl, hO⟩, hb6⟩
      go_wp2_with fail
      have hG6 := hdw2.out.trans (hb6.mono hdw2.out.size)
      refine postH_normal (hK _ _ _ (Gr.of hG6) ?_)
      clear hK K
      have hO6 := Lib.hid (hO.lower hdw2.out.size)
      clear hO
      refine wpAnyH_each (rs := [9]) (by kernel_rfl) (by decide) (fun K hK q hq => ?_)
      obtain rfl := List.mem_singleton.1 hq
      refine wpOp_listed rfl ?_
      refine step_build_dg rfl _ rfl Z hZ'.out rfl ?_
      have hG7 : Below wc.heap.size wc (w6.alloc (.cells (Z.map bv).toArray 31)) := hG6.alloc hG6.size _
      refine wpList_end (postH_normal (hK _ _ _ (Gr.of hG7) ?_))
      clear hK K
      have hN7 := Lib.hid (Blk.new w6 (Z.map bv) 31)
      have hO7 : Hid (OwnD (w6.alloc (.cells (Z.map bv).toArray 31)) wc.heap.size v M) := World.ownsRow.alloc hO6.out _
      generalize w6.heap.size = gN at hN7 ⊢
      generalize w6.alloc (.cells (Z.map bv).toArray 31) = w7 at hN7 hO7 hG7 ⊢
      refine wpAnyH_each (rs := [10]) (by kernel_rfl) (by decide) (fun K hK q hq => ?_)
      obtain rfl := List.mem_singleton.1 hq
      refine wpOp_listed rfl ?_
      have hrd : Hid (Dg w7 (some ⟨gN, 0, none⟩) [Z]) := by
        show Rds _ _ _ _
        have h := hN7.out.rds 0 (Z.map bv).length
        rw [List.drop_zero, List.take_of_length_le (Nat.le_refl _)] at h
        rw [flat_one]
        exact h
      refine push_digs rfl _ _ rfl wc.heap.size v M [Z] (d16_one hZ'.out) _ (some ⟨gN, 0, none⟩) 1 1 rfl (fun h => by cases h) rfl rfl hrd.out hO7.out (by have := hM6'.out; simp; omega) hG7.size ?_
      intro v8 w8 ho8 hb8 hgr8
      have hG8 := hG7.trans hb8
      refine wpList_end (postH_normal (hK _ _ _ (Gr.of hG8) ?_))
      clear hK K
      obtain ⟨A5, c5, rfl, _, _, _, _⟩ := ho8.form
      have ho8' := Lib.hid ho8
      clear ho8 hgr8
      generalize (M ++ [Z]).length = m5 at ho8' ⊢
      refine wpAnyH_each (rs := [11]) (by kernel_rfl) (by decide) (fun K hK q hq => ?_)
      obtain rfl := List.mem_singleton.1 hq
      refine wpOp_listed rfl ?_
      go_wp2_with fail
      refine postH_normal (hK _ _ _ (Gr.of hG8) ?_)
      clear hK K
      refine wpAnyH_each (rs := [12]) (by kernel_rfl) (by decide) (fun K hK q hq => ?_)
      obtain rfl := List.mem_singleton.1 hq
      refine wpOp_listed rfl ?_
      refine wpList_row_store rfl 43 _ _ rfl [.int .i64 ((z : Int) + 1), .slice A5 m5 c5] rfl rfl (hR6.out.below hG8 hR6.out.lt) size_peaks rfl (one_peaks _ _ _ _) ?_
      intro w9 hW9 ho9
      have hG9 : Gr (w.heap.size + 1 + 1) wc w9 := (Gr.of hG8).trans (Gr.only ho9)
      refine wpList_end (postH_normal (hK _ _ _ hG9 ?_))
      clear hK K
      refine wpAnyH_each (rs := [13]) (by kernel_rfl) (by decide) (fun K hK q hq => ?_)
      obtain rfl := List.mem_singleton.1 hq
      refine wpOp_listed rfl ?_
      go_wp2_with fail
      refine postH_normal (hK _ _ _ hG9 ?_)
      clear hK K
      refine wpAnyH_done (by kernel_rfl) ?_ _
      have hend : Below w.heap.size w w9 := hB6.out.trans (hG9.below (by omega) (Nat.le_trans (by omega) (Nat.le_of_lt hrs.out)))
      have hoe := (ho8'.out.only ho9 hrs.out).lower (Nat.le_trans hB6.out.size (Nat.le_refl _))
      go_wp2_with fail
      rw [e2]
      exact bodyPost_ret (ret_cell_tmp rfl _ w9 (g := w.heap.size + 1 + 1) _ rfl rfl hW9.out pd hpd hpr size_peaks) rfl ⟨⟨_, rfl, hoe⟩, hend⟩
    · refine wpOp_listed rfl ?_
      refine step_build_dg rfl _ rfl Z hZ'.out rfl ?_
      have hG6 : Below wc.heap.size wc (Wd.alloc (.cells (Z.map bv).toArray 31)) := hdw2.out.alloc hdw2.out.size _
      refine wpList_end (postH_normal (hK _ _ _ (Gr.of hG6) ?_))
      clear hK K
      have hN6 := Lib.hid (Blk.new Wd (Z.map bv) 31)
      generalize Wd.heap.size = gN at hN6 ⊢
      generalize Wd.alloc (.cells (Z.map bv).toArray 31) = w6 at hN6 hG6 ⊢
      refine wpAnyH_each (rs := [7]) (by kernel_rfl) (by decide) (fun K hK q hq => ?_)
      obtain rfl := List.mem_singleton.1 hq
      refine wpOp_listed rfl ?_
      go_wp2_with fail
      refine (HC.out _ (hBw.out _ hG6)).mono ?_
      rintro e w7 ⟨⟨v, rfl, hO⟩, hb7⟩
      go_wp2_with fail
      have hG7 := hG6.trans (hb7.mono hG6.size)
      refine postH_normal (hK _ _ _ (Gr.of hG7) ?_)
      clear hK K
      have hO7 := Lib.hid (hO.lower hG6.size)
      have hN7 := Lib.hid (hN6.out.below hb7 hN6.out.lt)
      clear hO
      refine wpAnyH_each (rs := [10]) (by kernel_rfl) (by decide) (fun K hK q hq => ?_)
      obtain rfl := List.mem_singleton.1 hq
      refine wpOp_listed rfl ?_
      have hrd : Hid (Dg w7 (some ⟨gN, 0, none⟩) [Z]) := by
        show Rds _ _ _ _
        have h := hN7.out.rds 0 (Z.map bv).length
        rw [List.drop_zero, List.take_of_length_le (Nat.le_refl _)] at h
        rw [flat_one]
        exact h
      refine push_digs rfl _ _ rfl wc.heap.size v M [Z] (d16_one hZ'.out) _ (some ⟨gN, 0, none⟩) 1 1 rfl (fun h => by cases h) rfl rfl hrd.out hO7.out (by have := hM6'.out; simp; omega) hG7.size ?_
      intro v8 w8 ho8 hb8 hgr8
      have hG8 := hG7.trans hb8
      refine wpList_end (postH_normal (hK _ _ _ (Gr.of hG8) ?_))
      clear hK K
      obtain ⟨A5, c5, rfl, _, _, _, _⟩ := ho8.form
      have ho8' := Lib.hid ho8
      clear ho8 hgr8
      generalize (M ++ [Z]).length = m5 at ho8' ⊢
      refine wpAnyH_each (rs := [11]) (by kernel_rfl) (by decide) (fun K hK q hq => ?_)
      obtain rfl := List.mem_singleton.1 hq
      refine wpOp_listed rfl ?_
      go_wp2_with fail
      refine postH_normal (hK _ _ _ (Gr.of hG8) ?_)
      clear hK K
      refine wpAnyH_each (rs := [12]) (by kernel_rfl) (by decide) (fun K hK q hq => ?_)
      obtain rfl := List.mem_singleton.1 hq
      refine wpOp_listed rfl ?_
      refine wpList_row_store rfl 43 _ _ rfl [.int .i64 ((z : Int) + 1), .slice A5 m5 c5] rfl rfl (hR6.out.below hG8 hR6.out.lt) size_peaks rfl (one_peaks _ _ _ _) ?_
      intro w9 hW9 ho9
      have hG9 : Gr (w.heap.size + 1 + 1) wc w9 := (Gr.of hG8).trans (Gr.only ho9)
      refine wpList_end (postH_normal (hK _ _ _ hG9 ?_))
      clear hK K
      refine wpAnyH_each (rs := [13]) (by kernel_rfl) (by decide) (fun K hK q hq => ?_)
      obtain rfl := List.mem_singleton.1 hq
      refine wpOp_listed rfl ?_
      go_wp2_with fail
      refine postH_normal (hK _ _ _ hG9 ?_)
      clear hK K
      refine wpAnyH_done (by kernel_rfl) ?_ _
      have hend : Below w.heap.size w w9 := hB6.out.trans (hG9.below (by omega) (Nat.le_trans (by omega) (Nat.le_of_lt hrs.out)))
      have hoe := (ho8'.out.only ho9 hrs.out).lower (Nat.le_trans hB6.out.size (Nat.le_refl _))
      go_wp2_with fail
      rw [e2]
      exact bodyPost_ret (ret_cell_tmp rfl _ w9 (g := w.heap.size + 1 + 1) _ rfl rfl hW9.out pd hpd hpr size_peaks) rfl ⟨⟨_, rfl, hoe⟩, hend⟩


set_option maxRecDepth 100000 in
set_option maxHeartbeats 1500000 in
theorem append_full (z t : Nat) (n : Nat) (ad : Addr) (M : List (List UInt8)) (leaf Z : List UInt8) (w : World) (hz : z < 1099511627776) (ht0 : t + n = n) (hn6 : n ≤ 1000000) (hM6 : M.length ≤ 1000000) (hok : pkOk z n = true) (hleaf : leaf.length = 16) (hZ : Z.length = 16) (hM : D16 M)
    (HT : Hid (∀ W, Below w.heap.size w W → Calls Tryd.prog 52 #[.int .u64 ((18446744073709551615 - z : Nat) : Int)] W fun e w' => e = .returned (.int .i64 t) ∧ w' = W))
    (HJ : Hid (∀ W, Below w.heap.size w W → Calls Tryd.prog 53 #[.slice (some ad) 0 0, av leaf] W fun e w' => e = .returned (av Z) ∧ Below W.heap.size W w'))
    (HC : Hid (∀ W, Below w.heap.size w W → Calls Tryd.prog 54 #[.slice (some ad) n n] W fun e w' => (∃ v, e = .returned v ∧ OwnD w' W.heap.size v M) ∧ Below W.heap.size W w')) :
    Calls Tryd.prog 25 #[pkv z (some ad) n n, av leaf] w fun e w' => (∃ v, e = .returned (.tuple #[.agg #[.int .i64 ((z + 1 : Nat) : Int), v], .int .i64 0]) ∧ OwnD w' w.heap.size v (M ++ [Z])) ∧ Below w.heap.size w w' := by
  have HO : Hid (∀ W, Calls Tryd.prog 51 #[pkv z (some ad) n n] W fun e w' => e = .returned (.bool true) ∧ Below W.heap.size W w') := fun W => by have := wellFormed_any z (some ad) n n W; rwa [hok] at this
  obtain ⟨pd, hpd, hpr⟩ := row_peaks
  have hzl : (Z.map bv).length = 16 := by rw [List.length_map, hZ]
  have hzs := Lib.hid (size_dig16 (Z.map bv) hzl)
  have hzo := av_one Z
  have hll : (leaf.map bv).length = 16 := by rw [List.length_map, hleaf]
  have hls := Lib.hid (size_dig16 (leaf.map bv) hll)
  obtain ⟨lv, hlv⟩ : ∃ lv, lv = leaf.map bv := ⟨_, rfl⟩
  have t0 : ((z : Int) == 1099511627776) = false := by simp; omega
  have e1 : (n : Int) - (t : Int) = (n : Int) := by omega
  have e2 : ((z + 1 : Nat) : Int) = (z : Int) + 1 := by omega
  have ex := u64_not z (by omega)
  have ew : IntKind.i64.wrap (n : Int) = (n : Int) := by rw [IntKind.wrap_i64]; omega
  have i1 : (n : Int) ≤ 1000000 := by omega
  unfold pkv av at *
  rw [← hlv]
  obtain ⟨W3, hW3⟩ : ∃ W3, W3 = ((w.alloc (.cells #[.int .i64 z, .slice (some ad) n n] 43)).alloc (.cells lv.toArray 31)).alloc (.cells #[.int .i64 0, .slice none 0 0] 43) := ⟨_, rfl⟩
  have hB3 : Hid (Below w.heap.size w W3) := by show Below _ _ _; rw [hW3]; exact below3 _ _ _ _
  have hR3 : Hid (Blk W3 (w.heap.size + 1 + 1) [.int .i64 0, .slice none 0 0] 43) := by show Blk _ _ _ _; rw [hW3]; exact (Blk.new _ [_, _] _).at (by simp)
  have hL3 : Hid (Blk W3 (w.heap.size + 1) (leaf.map bv) 31) := by show Blk _ _ _ _; rw [hW3, ← hlv]; exact ((Blk.new _ _ _).at (by simp)).alloc _
  have hK3 : Hid (Blk W3 w.heap.size [.int .i64 z, .slice (some ad) n n] 43) := by show Blk _ _ _ _; rw [hW3]; exact ((Blk.new _ [_, _] _).alloc _).alloc _
  have hW3' := Lib.hid hW3
  have hM' := Lib.hid hM
  have hM6' := Lib.hid hM6
  have hZ' := Lib.hid hZ
  clear hW3 hok hleaf hZ hM hM6 hlv
  go_enter Tryd.func25, Tryd.ntmps25
  go_wp2_with fail
  generalize hg : ((w.alloc _).alloc _).alloc _ = Wg
  have hgW : W3 = Wg := by rw [← hg, hW3'.out]
  clear hg hW3'
  subst hgW
  refine (HO.out _).mono ?_
  rintro e w4 ⟨rfl, hb4⟩
  have hR4 := Lib.hid (hR3.out.below hb4 hR3.out.lt)
  have hK4 := Lib.hid (hK3.out.below hb4 hK3.out.lt)
  have hL4 := Lib.hid (hL3.out.below hb4 hL3.out.lt)
  have c0 := hK4.out.cell (j := 0) rfl
  have hB4 := Lib.hid (hB3.out.trans (hb4.mono hB3.out.size))
  clear hb4 hR3 hK3 hL3 hB3
  go_wp2_with fail
  have hd4 : Below w4.heap.size w4 w4.drew := (Below.refl _ _).drew
  have q0 : ∀ x : ROf (Below w4.heap.size) w4.drew, x.world.cell? ⟨w.heap.size, 0, none⟩ = some (.int .i64 z) := fun x => (hK4.out.below (hd4.trans x.rel) hK4.out.lt).cell (j := 0) rfl
  have q1 : ∀ x : ROf (Below w4.heap.size) w4.drew, x.world.cell? ⟨w.heap.size, 1, none⟩ = some (.slice (some ad) n n) := fun x => (hK4.out.below (hd4.trans x.rel) hK4.out.lt).cell (j := 1) rfl
  have hne : Nonempty (ROf (Below w4.heap.size) w4.drew) := ⟨⟨_, Below.refl _ _⟩⟩
  refine wp_region_planR (R := Below w4.heap.size) (fun w => Below.refl _ w) (fun _ _ _ h k => h.trans k) [] [(true, 0), (true, 1), (true, 2), (true, 3), (true, 4), (true, 5), (true, 6), (false, 7), (true, 8), (true, 9)] (by decide) (by kernel_rfl) (by kernel_rfl) (by decide) (by intro c a d v w h; cases d <;> exact h) ?_
  change wpPlanR _ _ _ _ _ _ _ w4.drew
  iterate 7 (refine wpPlanR_plain rfl (fun K hK => ?_); go_simp; refine hK _ ?_; clear hK K)
  refine wpPlanR_call rfl (fun K hK => ?_)
  go_wp2_with fail
  refine (HT.out _ (hB4.out.trans (hd4.mono hB4.out.size))).mono ?_
  rintro e w5 ⟨rfl, hw5⟩
  have hw6 := hw5.symm
  clear hw5
  subst hw6
  go_wp2_with fail
  refine planPostR_normal ⟨.inr (Below.refl _ _), hK _ _ ?_⟩
  clear hK K
  iterate 2 (refine wpPlanR_plain rfl (fun K hK => ?_); go_simp; refine hK _ ?_; clear hK K)
  refine wpPlanR_nil ?_
  go_wp2_with fail
  have hR5 := Lib.hid (hR4.out.below hd4 hR4.out.lt)
  have hK5 := Lib.hid (hK4.out.below hd4 hK4.out.lt)
  have hL5 := Lib.hid (hL4.out.below hd4 hL4.out.lt)
  have hB5 := Lib.hid (hB4.out.trans (hd4.mono hB4.out.size))
  clear q0 q1 hne hd4 hR4 hK4 hL4 hB4 c0
  generalize w4.drew = w5 at hR5 hK5 hL5 hB5 ⊢
  go_cut [7] from 27 to 32 (fun v W => ∃ g, v = .pointer (some ⟨g, 0, none⟩) ∧ w5.heap.size ≤ g ∧ Blk W g (Z.map bv) 31 ∧ Below w5.heap.size w5 W)
  case first J KK hJ hKK =>
    have hdw : Below w5.heap.size w5 w5.drew := (Below.refl _ _).drew
    have hne : Nonempty (SOf (fun W => Below w5.heap.size w5 W)) := ⟨⟨_, hdw⟩⟩
    have q1 : ∀ x : SOf (fun W => Below w5.heap.size w5 W), x.world.cell? ⟨w.heap.size, 1, none⟩ = some (.slice (some ad) n n) := fun x => (hK5.out.below x.meets hK5.out.lt).cell (j := 1) rfl
    refine wp_region_planH (fun W => Below w5.heap.size w5 W) [0, 1, 2, 3, 4] 3 (by kernel_rfl) (by kernel_rfl) (by kernel_rfl) (by kernel_rfl) (by intro c a d v w h; cases d <;> exact h) hdw ?_
    change wpPlanH _ _ _ _ _ _ _ _ _ w5.drew
    iterate 4 (refine wpPlanH_plain rfl (fun K hK => ?_); go_simp; refine hK _ ?_; clear hK K)
    refine wpPlanH_runW rfl (by rfl) _ (fun x => load_run 31 _ rfl (w.heap.size + 1) 0 rfl (leaf.map bv) (.array 16 5) arr_dig rfl hls.out x.world ((hL5.out.below x.meets hL5.out.lt).range 0 _ (take_all0 _))) ?_
    clear hne q1
    have hdw2 := Lib.hid hdw
    clear hdw
    generalize w5.drew = Wd at hdw2 ⊢
    refine wpAnyH_each (rs := [5, 6]) (by kernel_rfl) (by decide) (fun K hK q hq => ?_)
    simp only [List.mem_cons, List.not_mem_nil, or_false] at hq
    rcases hq with rfl | rfl
    · refine wpOp_listed rfl ?_
      go_wp2_with fail
      refine (HJ.out _ (hB5.out.trans (hdw2.out.mono hB5.out.size))).mono ?_
      rintro e w6 ⟨rfl, hb6⟩
      go_wp2_with fail
      have hb6' := hdw2.out.trans (hb6.mono hdw2.out.size)
      refine postH_normal (hK _ _ _ hb6' ?_)
      clear hK K
      refine wpAnyH_each (rs := [6]) (by kernel_rfl) (by decide) (fun K hK q hq => ?_)
      obtain rfl := List.mem_singleton.1 hq
      refine wpOp_listed rfl ?_
      go_wp2_with fail
      have hb7 : Below w5.heap.size w5 (w6.alloc (.cells (bz 16).toArray 31)) := hb6'.trans ((Below.refl _ _).alloc hb6'.size _)
      refine postH_normal (hK _ _ _ hb7 ?_)
      clear hK K
      have hN7 := Lib.hid (Blk.new w6 (bz 16) 31)
      refine wpAnyH_each (rs := [7]) (by kernel_rfl) (by decide) (fun K hK q hq => ?_)
      obtain rfl := List.mem_singleton.1 hq
      refine wpOp_listed rfl ?_
      refine wpList_row_store rfl 31 _ _ rfl (Z.map bv) rfl rfl hN7.out hzs.out (by rw [hzl]; rfl) hzo ?_
      intro w8 hW8 ho8
      have hb8 : Below w5.heap.size w5 w8 := hb7.trans (ho8.below hb6'.size)
      refine wpList_end (postH_normal (hK _ _ _ hb8 ?_))
      clear hK K
      refine wpAnyH_done (by kernel_rfl) ?_ _
      simp only [Act.put, List.setIfInBounds_toArray, List.set_cons_zero, List.set_cons_succ]
      show KK _ w8
      refine hKK _ _ (Met.intro (hJ _ _ ?_))
      repeat apply Exists.intro
      exact ⟨⟨w6.heap.size, rfl, hb6'.size, hW8.out, hb8⟩, rfl⟩
    · refine wpOp_listed rfl ?_
      go_wp2_with fail
      have hb6 : Below w5.heap.size w5 (Wd.alloc (.cells (bz 16).toArray 31)) := hdw2.out.trans ((Below.refl _ _).alloc hdw2.out.size _)
      refine postH_normal (hK _ _ _ hb6 ?_)
      clear hK K
      have hN6 := Lib.hid (Blk.new Wd (bz 16) 31)
      obtain ⟨W6, hW6⟩ : ∃ W6, W6 = Wd.alloc (.cells (bz 16).toArray 31) := ⟨_, rfl⟩
      rw [← hW6] at hN6 hb6
      generalize hg : Wd.alloc _ = Wg
      have hgW : W6 = Wg := by rw [← hg, hW6]; rfl
      clear hg hW6
      subst hgW
      have hb6' := Lib.hid hb6
      clear hb6
      refine wpAnyH_each (rs := [5]) (by kernel_rfl) (by decide) (fun K hK q hq => ?_)
      obtain rfl := List.mem_singleton.1 hq
      refine wpOp_listed rfl ?_
      go_wp2_with fail
      refine (HJ.out _ (hB5.out.trans (hb6'.out.mono hB5.out.size))).mono ?_
      rintro e w7 ⟨rfl, hb7⟩
      go_wp2_with fail
      have hb7' := hb6'.out.trans (hb7.mono hb6'.out.size)
      refine postH_normal (hK _ _ _ hb7' ?_)
      clear hK K
      have hN7 := hN6.out.below hb7 hN6.out.lt
      refine wpAnyH_each (rs := [7]) (by kernel_rfl) (by decide) (fun K hK q hq => ?_)
      obtain rfl := List.mem_singleton.1 hq
      refine wpOp_listed rfl ?_
      refine wpList_row_store rfl 31 _ _ rfl (Z.map bv) rfl rfl hN7 hzs.out (by rw [hzl]; rfl) hzo ?_
      intro w8 hW8 ho8
      have hb8 : Below w5.heap.size w5 w8 := hb7'.trans (ho8.below hdw2.out.size)
      refine wpList_end (postH_normal (hK _ _ _ hb8 ?_))
      clear hK K
      refine wpAnyH_done (by kernel_rfl) ?_ _
      simp only [Act.put, List.setIfInBounds_toArray, List.set_cons_zero, List.set_cons_succ]
      show KK _ w8
      refine hKK _ _ (Met.intro (hJ _ _ ?_))
      repeat apply Exists.intro
      exact ⟨⟨Wd.heap.size, rfl, hdw2.out.size, hW8.out, hb8⟩, rfl⟩
  case rest =>
    obtain ⟨g1, hv1, hg1s, hG1, hbc⟩ := hcut
    subst hv1
    have hR6 := Lib.hid (hR5.out.below hbc hR5.out.lt)
    have hK6 := Lib.hid (hK5.out.below hbc hK5.out.lt)
    have hB6 := Lib.hid (hB5.out.trans (hbc.mono hB5.out.size))
    have hG1' := Lib.hid hG1
    have hg1n0 : Hid (w.heap.size + 1 + 1 < g1) := Nat.lt_of_lt_of_le hR5.out.lt hg1s
    clear hR5 hK5 hL5 hB5 hbc hG1 hg1s
    go_wp2_with fail
    have hdw : Gr (w.heap.size + 1 + 1) wc wc.drew := Gr.of ((Below.refl _ _).drew)
    have hne : Nonempty (SOf (fun W => Gr (w.heap.size + 1 + 1) wc W)) := ⟨⟨_, hdw⟩⟩
    have q0 : ∀ x : SOf (fun W => Gr (w.heap.size + 1 + 1) wc W), x.world.cell? ⟨w.heap.size, 0, none⟩ = some (.int .i64 z) := fun x => (hK6.out.gr x.meets (by omega)).cell (j := 0) rfl
    have q1 : ∀ x : SOf (fun W => Gr (w.heap.size + 1 + 1) wc W), x.world.cell? ⟨w.heap.size, 1, none⟩ = some (.slice (some ad) n n) := fun x => (hK6.out.gr x.meets (by omega)).cell (j := 1) rfl
    have hg1n : Hid (g1 ≠ w.heap.size + 1 + 1) := by have := hg1n0.out; show _ ≠ _; omega
    refine wp_region_planH (fun W => Gr (w.heap.size + 1 + 1) wc W) [0, 1, 2, 3, 4, 5, 6, 8] 6 (by kernel_rfl) (by kernel_rfl) (by kernel_rfl) (by kernel_rfl) (by intro c a d v w h; cases d <;> exact h) hdw ?_
    change wpPlanH _ _ _ _ _ _ _ _ _ wc.drew
    iterate 7 (refine wpPlanH_plain rfl (fun K hK => ?_); go_simp; refine hK _ ?_; clear hK K)
    refine wpPlanH_runW rfl (by rfl) _ (fun x => load_run 31 _ rfl g1 0 rfl (Z.map bv) (.array 16 5) arr_dig rfl hzs.out x.world ((hG1'.out.gr x.meets hg1n.out).range 0 _ (take_all0 _))) ?_
    clear hne q0 q1
    have hdw2 : Hid (Below wc.heap.size wc wc.drew) := (Below.refl _ _).drew
    have hrs : Hid (w.heap.size + 1 + 1 < wc.heap.size) := hR6.out.lt
    have hBw : Hid (∀ W, Below wc.heap.size wc W → Below w.heap.size w W) := fun W hg => hB6.out.trans (hg.mono hB6.out.size)
    clear hdw
    generalize wc.drew = Wd at hdw2 ⊢
    refine wpAnyH_each (rs := [7, 9]) (by kernel_rfl) (by decide) (fun K hK q hq => ?_)
    simp only [List.mem_cons, List.not_mem_nil, or_false] at hq
    rcases hq with rfl | rfl
    · refine wpOp_listed rfl ?_
      go_wp2_with fail
      refine (HC.out _ (hBw.out _ hdw2.out)).mono ?_
      rintro e w6 ⟨⟨v, rfl, hO⟩, hb6⟩
      go_wp2_with fail
      have hG6 := hdw2.out.trans (hb6.mono hdw2.out.size)
      refine postH_normal (hK _ _ _ (Gr.of hG6) ?_)
      clear hK K
      have hO6 := Lib.hid (hO.lower hdw2.out.size)
      clear hO
      refine wpAnyH_each (rs := [9]) (by kernel_rfl) (by decide) (fun K hK q hq => ?_)
      obtain rfl := List.mem_singleton.1 hq
      refine wpOp_listed rfl ?_
      refine step_build_dg rfl _ rfl Z hZ'.out rfl ?_
      have hG7 : Below wc.heap.size wc (w6.alloc (.cells (Z.map bv).toArray 31)) := hG6.alloc hG6.size _
      refine wpList_end (postH_normal (hK _ _ _ (Gr.of hG7) ?_))
      clear hK K
      have hN7 := Lib.hid (Blk.new w6 (Z.map bv) 31)
      have hO7 : Hid (OwnD (w6.alloc (.cells (Z.map bv).toArray 31)) wc.heap.size v M) := World.ownsRow.alloc hO6.out _
      generalize w6.heap.size = gN at hN7 ⊢
      generalize w6.alloc (.cells (Z.map bv).toArray 31) = w7 at hN7 hO7 hG7 ⊢
      refine wpAnyH_each (rs := [10]) (by kernel_rfl) (by decide) (fun K hK q hq => ?_)
      obtain rfl := List.mem_singleton.1 hq
      refine wpOp_listed rfl ?_
      have hrd : Hid (Dg w7 (some ⟨gN, 0, none⟩) [Z]) := by
        show Rds _ _ _ _
        have h := hN7.out.rds 0 (Z.map bv).length
        rw [List.drop_zero, List.take_of_length_le (Nat.le_refl _)] at h
        rw [flat_one]
        exact h
      refine push_digs rfl _ _ rfl wc.heap.size v M [Z] (d16_one hZ'.out) _ (some ⟨gN, 0, none⟩) 1 1 rfl (fun h => by cases h) rfl rfl hrd.out hO7.out (by have := hM6'.out; simp; omega) hG7.size ?_
      intro v8 w8 ho8 hb8 hgr8
      have hG8 := hG7.trans hb8
      refine wpList_end (postH_normal (hK _ _ _ (Gr.of hG8) ?_))
      clear hK K
      obtain ⟨A5, c5, rfl, _, _, _, _⟩ := ho8.form
      have ho8' := Lib.hid ho8
      clear ho8 hgr8
      generalize (M ++ [Z]).length = m5 at ho8' ⊢
      refine wpAnyH_each (rs := [11]) (by kernel_rfl) (by decide) (fun K hK q hq => ?_)
      obtain rfl := List.mem_singleton.1 hq
      refine wpOp_listed rfl ?_
      go_wp2_with fail
      refine postH_normal (hK _ _ _ (Gr.of hG8) ?_)
      clear hK K
      refine wpAnyH_each (rs := [12]) (by kernel_rfl) (by decide) (fun K hK q hq => ?_)
      obtain rfl := List.mem_singleton.1 hq
      refine wpOp_listed rfl ?_
      refine wpList_row_store rfl 43 _ _ rfl [.int .i64 ((z : Int) + 1), .slice A5 m5 c5] rfl rfl (hR6.out.below hG8 hR6.out.lt) size_peaks rfl (one_peaks _ _ _ _) ?_
      intro w9 hW9 ho9
      have hG9 : Gr (w.heap.size + 1 + 1) wc w9 := (Gr.of hG8).trans (Gr.only ho9)
      refine wpList_end (postH_normal (hK _ _ _ hG9 ?_))
      clear hK K
      refine wpAnyH_each (rs := [13]) (by kernel_rfl) (by decide) (fun K hK q hq => ?_)
      obtain rfl := List.mem_singleton.1 hq
      refine wpOp_listed rfl ?_
      go_wp2_with fail
      refine postH_normal (hK _ _ _ hG9 ?_)
      clear hK K
      refine wpAnyH_done (by kernel_rfl) ?_ _
      have hend : Below w.heap.size w w9 := hB6.out.trans (hG9.below (by omega) (Nat.le_trans (by omega) (Nat.le_of_lt hrs.out)))
      have hoe := (ho8'.out.only ho9 hrs.out).lower (Nat.le_trans hB6.out.size (Nat.le_refl _))
      go_wp2_with fail
      rw [e2]
      exact bodyPost_ret (ret_cell_tmp rfl _ w9 (g := w.heap.size + 1 + 1) _ rfl rfl hW9.out pd hpd hpr size_peaks) rfl ⟨⟨_, rfl, hoe⟩, hend⟩
    · refine wpOp_listed rfl ?_
      refine step_build_dg rfl _ rfl Z hZ'.out rfl ?_
      have hG6 : Below wc.heap.size wc (Wd.alloc (.cells (Z.map bv).toArray 31)) := hdw2.out.alloc hdw2.out.size _
      refine wpList_end (postH_normal (hK _ _ _ (Gr.of hG6) ?_))
      clear hK K
      have hN6 := Lib.hid (Blk.new Wd (Z.map bv) 31)
      generalize Wd.heap.size = gN at hN6 ⊢
      generalize Wd.alloc (.cells (Z.map bv).toArray 31) = w6 at hN6 hG6 ⊢
      refine wpAnyH_each (rs := [7]) (by kernel_rfl) (by decide) (fun K hK q hq => ?_)
      obtain rfl := List.mem_singleton.1 hq
      refine wpOp_listed rfl ?_
      go_wp2_with fail
      refine (HC.out _ (hBw.out _ hG6)).mono ?_
      rintro e w7 ⟨⟨v, rfl, hO⟩, hb7⟩
      go_wp2_with fail
      have hG7 := hG6.trans (hb7.mono hG6.size)
      refine postH_normal (hK _ _ _ (Gr.of hG7) ?_)
      clear hK K
      have hO7 := Lib.hid (hO.lower hG6.size)
      have hN7 := Lib.hid (hN6.out.below hb7 hN6.out.lt)
      clear hO
      refine wpAnyH_each (rs := [10]) (by kernel_rfl) (by decide) (fun K hK q hq => ?_)
      obtain rfl := List.mem_singleton.1 hq
      refine wpOp_listed rfl ?_
      have hrd : Hid (Dg w7 (some ⟨gN, 0, none⟩) [Z]) := by
        show Rds _ _ _ _
        have h := hN7.out.rds 0 (Z.map bv).length
        rw [List.drop_zero, List.take_of_length_le (Nat.le_refl _)] at h
        rw [flat_one]
        exact h
      refine push_digs rfl _ _ rfl wc.heap.size v M [Z] (d16_one hZ'.out) _ (some ⟨gN, 0, none⟩) 1 1 rfl (fun h => by cases h) rfl rfl hrd.out hO7.out (by have := hM6'.out; simp; omega) hG7.size ?_
      intro v8 w8 ho8 hb8 hgr8
      have hG8 := hG7.trans hb8
      refine wpList_end (postH_normal (hK _ _ _ (Gr.of hG8) ?_))
      clear hK K
      obtain ⟨A5, c5, rfl, _, _, _, _⟩ := ho8.form
      have ho8' := Lib.hid ho8
      clear ho8 hgr8
      generalize (M ++ [Z]).length = m5 at ho8' ⊢
      refine wpAnyH_each (rs := [11]) (by kernel_rfl) (by decide) (fun K hK q hq => ?_)
      obtain rfl := List.mem_singleton.1 hq
      refine wpOp_listed rfl ?_
      go_wp2_with fail
      refine postH_normal (hK _ _ _ (Gr.of hG8) ?_)
      clear hK K
      refine wpAnyH_each (rs := [12]) (by kernel_rfl) (by decide) (fun K hK q hq => ?_)
      obtain rfl := List.mem_singleton.1 hq
      refine wpOp_listed rfl ?_
      refine wpList_row_store rfl 43 _ _ rfl [.int .i64 ((z : Int) + 1), .slice A5 m5 c5] rfl rfl (hR6.out.below hG8 hR6.out.lt) size_peaks rfl (one_peaks _ _ _ _) ?_
      intro w9 hW9 ho9
      have hG9 : Gr (w.heap.size + 1 + 1) wc w9 := (Gr.of hG8).trans (Gr.only ho9)
      refine wpList_end (postH_normal (hK _ _ _ hG9 ?_))
      clear hK K
      refine wpAnyH_each (rs := [13]) (by kernel_rfl) (by decide) (fun K hK q hq => ?_)
      obtain rfl := List.mem_singleton.1 hq
      refine wpOp_listed rfl ?_
      go_wp2_with fail
      refine postH_normal (hK _ _ _ hG9 ?_)
      clear hK K
      refine wpAnyH_done (by kernel_rfl) ?_ _
      have hend : Below w.heap.size w w9 := hB6.out.trans (hG9.below (by omega) (Nat.le_trans (by omega) (Nat.le_of_lt hrs.out)))
      have hoe := (ho8'.out.only ho9 hrs.out).lower (Nat.le_trans hB6.out.size (Nat.le_refl _))
      go_wp2_with fail
      rw [e2]
      exact bodyPost_ret (ret_cell_tmp rfl _ w9 (g := w.heap.size + 1 + 1) _ rfl rfl hW9.out pd hpd hpr size_peaks) rfl ⟨⟨_, rfl, hoe⟩, hend⟩


set_option maxRecDepth 100000 in
set_option maxHeartbeats 1500000 in
theorem append_part (z t : Nat) (n c k : Nat) (ad : Addr) (M : List (List UInt8)) (leaf Z : List UInt8) (w : World) (hz : z < 1099511627776) (ht0 : t + k = n) (hn6 : n ≤ 1000000) (hkn : k ≤ n) (hnc : n ≤ c) (hkc : k ≠ c) (hM6 : M.length ≤ 1000000) (hok : pkOk z n = true) (hleaf : leaf.length = 16) (hZ : Z.length = 16) (hM : D16 M)
    (HT : Hid (∀ W, Below w.heap.size w W → Calls Tryd.prog 52 #[.int .u64 ((18446744073709551615 - z : Nat) : Int)] W fun e w' => e = .returned (.int .i64 t) ∧ w' = W))
    (HJ : Hid (∀ W, Below w.heap.size w W → Calls Tryd.prog 53 #[.slice (some (ad.add (k * 16))) (n - k) (c - k), av leaf] W fun e w' => e = .returned (av Z) ∧ Below W.heap.size W w'))
    (HC : Hid (∀ W, Below w.heap.size w W → Calls Tryd.prog 54 #[.slice (some ad) k c] W fun e w' => (∃ v, e = .returned v ∧ OwnD w' W.heap.size v M) ∧ Below W.heap.size W w')) :
    Calls Tryd.prog 25 #[pkv z (some ad) n c, av leaf] w fun e w' => (∃ v, e = .returned (.tuple #[.agg #[.int .i64 ((z + 1 : Nat) : Int), v], .int .i64 0]) ∧ OwnD w' w.heap.size v (M ++ [Z])) ∧ Below w.heap.size w w' := by
  have HO : Hid (∀ W, Calls Tryd.prog 51 #[pkv z (some ad) n c] W fun e w' => e = .returned (.bool true) ∧ Below W.heap.size W w') := fun W => by have := wellFormed_any z (some ad) n c W; rwa [hok] at this
  obtain ⟨pd, hpd, hpr⟩ := row_peaks
  have hzl : (Z.map bv).length = 16 := by rw [List.length_map, hZ]
  have hzs := Lib.hid (size_dig16 (Z.map bv) hzl)
  have hzo := av_one Z
  have hll : (leaf.map bv).length = 16 := by rw [List.length_map, hleaf]
  have hls := Lib.hid (size_dig16 (leaf.map bv) hll)
  obtain ⟨lv, hlv⟩ : ∃ lv, lv = leaf.map bv := ⟨_, rfl⟩
  have t0 : ((z : Int) == 1099511627776) = false := by simp; omega
  have e1 : (n : Int) - (t : Int) = (k : Int) := by omega
  have e2 : ((z + 1 : Nat) : Int) = (z : Int) + 1 := by omega
  have ex := u64_not z (by omega)
  have ew : IntKind.i64.wrap (k : Int) = (k : Int) := by rw [IntKind.wrap_i64]; omega
  have i1 : ¬ (c : Int) < (k : Int) := by omega
  have i2 : (k : Int) ≤ (c : Int) := by omega
  have i3 : ¬ (n : Int) < (k : Int) := by omega
  have i4 : (k : Int) ≤ (n : Int) := by omega
  have i5 : ¬ c = k := by omega
  unfold pkv av at *
  rw [← hlv]
  obtain ⟨W3, hW3⟩ : ∃ W3, W3 = ((w.alloc (.cells #[.int .i64 z, .slice (some ad) n c] 43)).alloc (.cells lv.toArray 31)).alloc (.cells #[.int .i64 0, .slice none 0 0] 43) := ⟨_, rfl⟩
  have hB3 : Hid (Below w.heap.size w W3) := by show Below _ _ _; rw [hW3]; exact below3 _ _ _ _
  have hR3 : Hid (Blk W3 (w.heap.size + 1 + 1) [.int .i64 0, .slice none 0 0] 43) := by show Blk _ _ _ _; rw [hW3]; exact (Blk.new _ [_, _] _).at (by simp)
  have hL3 : Hid (Blk W3 (w.heap.size + 1) (leaf.map bv) 31) := by show Blk _ _ _ _; rw [hW3, ← hlv]; exact ((Blk.new _ _ _).at (by simp)).alloc _
  have hK3 : Hid (Blk W3 w.heap.size [.int .i64 z, .slice (some ad) n c] 43) := by show Blk _ _ _ _; rw [hW3]; exact ((Blk.new _ [_, _] _).alloc _).alloc _
  have hW3' := Lib.hid hW3
  have hM' := Lib.hid hM
  have hM6' := Lib.hid hM6
  have hZ' := Lib.hid hZ
  clear hW3 hok hleaf hZ hM hM6 hlv
  go_enter Tryd.func25, Tryd.ntmps25
  go_wp2_with fail
  generalize hg : ((w.alloc _).alloc _).alloc _ = Wg
  have hgW : W3 = Wg := by rw [← hg, hW3'.out]
  clear hg hW3'
  subst hgW
  refine (HO.out _).mono ?_
  rintro e w4 ⟨rfl, hb4⟩
  have hR4 := Lib.hid (hR3.out.below hb4 hR3.out.lt)
  have hK4 := Lib.hid (hK3.out.below hb4 hK3.out.lt)
  have hL4 := Lib.hid (hL3.out.below hb4 hL3.out.lt)
  have c0 := hK4.out.cell (j := 0) rfl
  have hB4 := Lib.hid (hB3.out.trans (hb4.mono hB3.out.size))
  clear hb4 hR3 hK3 hL3 hB3
  go_wp2_with fail
  have hd4 : Below w4.heap.size w4 w4.drew := (Below.refl _ _).drew
  have q0 : ∀ x : ROf (Below w4.heap.size) w4.drew, x.world.cell? ⟨w.heap.size, 0, none⟩ = some (.int .i64 z) := fun x => (hK4.out.below (hd4.trans x.rel) hK4.out.lt).cell (j := 0) rfl
  have q1 : ∀ x : ROf (Below w4.heap.size) w4.drew, x.world.cell? ⟨w.heap.size, 1, none⟩ = some (.slice (some ad) n c) := fun x => (hK4.out.below (hd4.trans x.rel) hK4.out.lt).cell (j := 1) rfl
  have hne : Nonempty (ROf (Below w4.heap.size) w4.drew) := ⟨⟨_, Below.refl _ _⟩⟩
  refine wp_region_planR (R := Below w4.heap.size) (fun w => Below.refl _ w) (fun _ _ _ h k => h.trans k) [] [(true, 0), (true, 1), (true, 2), (true, 3), (true, 4), (true, 5), (true, 6), (false, 7), (true, 8), (true, 9)] (by decide) (by kernel_rfl) (by kernel_rfl) (by decide) (by intro c a d v w h; cases d <;> exact h) ?_
  change wpPlanR _ _ _ _ _ _ _ w4.drew
  iterate 7 (refine wpPlanR_plain rfl (fun K hK => ?_); go_simp; refine hK _ ?_; clear hK K)
  refine wpPlanR_call rfl (fun K hK => ?_)
  go_wp2_with fail
  refine (HT.out _ (hB4.out.trans (hd4.mono hB4.out.size))).mono ?_
  rintro e w5 ⟨rfl, hw5⟩
  have hw6 := hw5.symm
  clear hw5
  subst hw6
  go_wp2_with fail
  refine planPostR_normal ⟨.inr (Below.refl _ _), hK _ _ ?_⟩
  clear hK K
  iterate 2 (refine wpPlanR_plain rfl (fun K hK => ?_); go_simp; refine hK _ ?_; clear hK K)
  refine wpPlanR_nil ?_
  go_wp2_with fail
  have hR5 := Lib.hid (hR4.out.below hd4 hR4.out.lt)
  have hK5 := Lib.hid (hK4.out.below hd4 hK4.out.lt)
  have hL5 := Lib.hid (hL4.out.below hd4 hL4.out.lt)
  have hB5 := Lib.hid (hB4.out.trans (hd4.mono hB4.out.size))
  clear q0 q1 hne hd4 hR4 hK4 hL4 hB4 c0
  generalize w4.drew = w5 at hR5 hK5 hL5 hB5 ⊢
  go_cut [7] from 27 to 32 (fun v W => ∃ g, v = .pointer (some ⟨g, 0, none⟩) ∧ w5.heap.size ≤ g ∧ Blk W g (Z.map bv) 31 ∧ Below w5.heap.size w5 W)
  case first J KK hJ hKK =>
    have hdw : Below w5.heap.size w5 w5.drew := (Below.refl _ _).drew
    have hne : Nonempty (SOf (fun W => Below w5.heap.size w5 W)) := ⟨⟨_, hdw⟩⟩
    have q1 : ∀ x : SOf (fun W => Below w5.heap.size w5 W), x.world.cell? ⟨w.heap.size, 1, none⟩ = some (.slice (some ad) n c) := fun x => (hK5.out.below x.meets hK5.out.lt).cell (j := 1) rfl
    refine wp_region_planH (fun W => Below w5.heap.size w5 W) [0, 1, 2, 3, 4] 3 (by kernel_rfl) (by kernel_rfl) (by kernel_rfl) (by kernel_rfl) (by intro c a d v w h; cases d <;> exact h) hdw ?_
    change wpPlanH _ _ _ _ _ _ _ _ _ w5.drew
    iterate 4 (refine wpPlanH_plain rfl (fun K hK => ?_); go_simp; refine hK _ ?_; clear hK K)
    refine wpPlanH_runW rfl (by rfl) _ (fun x => load_run 31 _ rfl (w.heap.size + 1) 0 rfl (leaf.map bv) (.array 16 5) arr_dig rfl hls.out x.world ((hL5.out.below x.meets hL5.out.lt).range 0 _ (take_all0 _))) ?_
    clear hne q1
    have hdw2 := Lib.hid hdw
    clear hdw
    generalize w5.drew = Wd at hdw2 ⊢
    refine wpAnyH_each (rs := [5, 6]) (by kernel_rfl) (by decide) (fun K hK q hq => ?_)
    simp only [List.mem_cons, List.not_mem_nil, or_false] at hq
    rcases hq with rfl | rfl
    · refine wpOp_listed rfl ?_
      go_wp2_with fail
      refine (HJ.out _ (hB5.out.trans (hdw2.out.mono hB5.out.size))).mono ?_
      rintro e w6 ⟨rfl, hb6⟩
      go_wp2_with fail
      have hb6' := hdw2.out.trans (hb6.mono hdw2.out.size)
      refine postH_normal (hK _ _ _ hb6' ?_)
      clear hK K
      refine wpAnyH_each (rs := [6]) (by kernel_rfl) (by decide) (fun K hK q hq => ?_)
      obtain rfl := List.mem_singleton.1 hq
      refine wpOp_listed rfl ?_
      go_wp2_with fail
      have hb7 : Below w5.heap.size w5 (w6.alloc (.cells (bz 16).toArray 31)) := hb6'.trans ((Below.refl _ _).alloc hb6'.size _)
      refine postH_normal (hK _ _ _ hb7 ?_)
      clear hK K
      have hN7 := Lib.hid (Blk.new w6 (bz 16) 31)
      refine wpAnyH_each (rs := [7]) (by kernel_rfl) (by decide) (fun K hK q hq => ?_)
      obtain rfl := List.mem_singleton.1 hq
      refine wpOp_listed rfl ?_
      refine wpList_row_store rfl 31 _ _ rfl (Z.map bv) rfl rfl hN7.out hzs.out (by rw [hzl]; rfl) hzo ?_
      intro w8 hW8 ho8
      have hb8 : Below w5.heap.size w5 w8 := hb7.trans (ho8.below hb6'.size)
      refine wpList_end (postH_normal (hK _ _ _ hb8 ?_))
      clear hK K
      refine wpAnyH_done (by kernel_rfl) ?_ _
      simp only [Act.put, List.setIfInBounds_toArray, List.set_cons_zero, List.set_cons_succ]
      show KK _ w8
      refine hKK _ _ (Met.intro (hJ _ _ ?_))
      repeat apply Exists.intro
      exact ⟨⟨w6.heap.size, rfl, hb6'.size, hW8.out, hb8⟩, rfl⟩
    · refine wpOp_listed rfl ?_
      go_wp2_with fail
      have hb6 : Below w5.heap.size w5 (Wd.alloc (.cells (bz 16).toArray 31)) := hdw2.out.trans ((Below.refl _ _).alloc hdw2.out.size _)
      refine postH_normal (hK _ _ _ hb6 ?_)
      clear hK K
      have hN6 := Lib.hid (Blk.new Wd (bz 16) 31)
      obtain ⟨W6, hW6⟩ : ∃ W6, W6 = Wd.alloc (.cells (bz 16).toArray 31) := ⟨_, rfl⟩
      rw [← hW6] at hN6 hb6
      generalize hg : Wd.alloc _ = Wg
      have hgW : W6 = Wg := by rw [← hg, hW6]; rfl
      clear hg hW6
      subst hgW
      have hb6' := Lib.hid hb6
      clear hb6
      refine wpAnyH_each (rs := [5]) (by kernel_rfl) (by decide) (fun K hK q hq => ?_)
      obtain rfl := List.mem_singleton.1 hq
      refine wpOp_listed rfl ?_
      go_wp2_with fail
      refine (HJ.out _ (hB5.out.trans (hb6'.out.mono hB5.out.size))).mono ?_
      rintro e w7 ⟨rfl, hb7⟩
      go_wp2_with fail
      have hb7' := hb6'.out.trans (hb7.mono hb6'.out.size)
      refine postH_normal (hK _ _ _ hb7' ?_)
      clear hK K
      have hN7 := hN6.out.below hb7 hN6.out.lt
      refine wpAnyH_each (rs := [7]) (by kernel_rfl) (by decide) (fun K hK q hq => ?_)
      obtain rfl := List.mem_singleton.1 hq
      refine wpOp_listed rfl ?_
      refine wpList_row_store rfl 31 _ _ rfl (Z.map bv) rfl rfl hN7 hzs.out (by rw [hzl]; rfl) hzo ?_
      intro w8 hW8 ho8
      have hb8 : Below w5.heap.size w5 w8 := hb7'.trans (ho8.below hdw2.out.size)
      refine wpList_end (postH_normal (hK _ _ _ hb8 ?_))
      clear hK K
      refine wpAnyH_done (by kernel_rfl) ?_ _
      simp only [Act.put, List.setIfInBounds_toArray, List.set_cons_zero, List.set_cons_succ]
      show KK _ w8
      refine hKK _ _ (Met.intro (hJ _ _ ?_))
      repeat apply Exists.intro
      exact ⟨⟨Wd.heap.size, rfl, hdw2.out.size, hW8.out, hb8⟩, rfl⟩
  case rest =>
    obtain ⟨g1, hv1, hg1s, hG1, hbc⟩ := hcut
    subst hv1
    have hR6 := Lib.hid (hR5.out.below hbc hR5.out.lt)
    have hK6 := Lib.hid (hK5.out.below hbc hK5.out.lt)
    have hB6 := Lib.hid (hB5.out.trans (hbc.mono hB5.out.size))
    have hG1' := Lib.hid hG1
    have hg1n0 : Hid (w.heap.size + 1 + 1 < g1) := Nat.lt_of_lt_of_le hR5.out.lt hg1s
    clear hR5 hK5 hL5 hB5 hbc hG1 hg1s
    go_wp2_with fail
    have hdw : Gr (w.heap.size + 1 + 1) wc wc.drew := Gr.of ((Below.refl _ _).drew)
    have hne : Nonempty (SOf (fun W => Gr (w.heap.size + 1 + 1) wc W)) := ⟨⟨_, hdw⟩⟩
    have q0 : ∀ x : SOf (fun W => Gr (w.heap.size + 1 + 1) wc W), x.world.cell? ⟨w.heap.size, 0, none⟩ = some (.int .i64 z) := fun x => (hK6.out.gr x.meets (by omega)).cell (j := 0) rfl
    have q1 : ∀ x : SOf (fun W => Gr (w.heap.size + 1 + 1) wc W), x.world.cell? ⟨w.heap.size, 1, none⟩ = some (.slice (some ad) n c) := fun x => (hK6.out.gr x.meets (by omega)).cell (j := 1) rfl
    have hg1n : Hid (g1 ≠ w.heap.size + 1 + 1) := by have := hg1n0.out; show _ ≠ _; omega
    refine wp_region_planH (fun W => Gr (w.heap.size + 1 + 1) wc W) [0, 1, 2, 3, 4, 5, 6, 8] 6 (by kernel_rfl) (by kernel_rfl) (by kernel_rfl) (by kernel_rfl) (by intro c a d v w h; cases d <;> exact h) hdw ?_
    change wpPlanH _ _ _ _ _ _ _ _ _ wc.drew
    iterate 7 (refine wpPlanH_plain rfl (fun K hK => ?_); go_simp; refine hK _ ?_; clear hK K)
    refine wpPlanH_runW rfl (by rfl) _ (fun x => load_run 31 _ rfl g1 0 rfl (Z.map bv) (.array 16 5) arr_dig rfl hzs.out x.world ((hG1'.out.gr x.meets hg1n.out).range 0 _ (take_all0 _))) ?_
    clear hne q0 q1
    have hdw2 : Hid (Below wc.heap.size wc wc.drew) := (Below.refl _ _).drew
    have hrs : Hid (w.heap.size + 1 + 1 < wc.heap.size) := hR6.out.lt
    have hBw : Hid (∀ W, Below wc.heap.size wc W → Below w.heap.size w W) := fun W hg => hB6.out.trans (hg.mono hB6.out.size)
    clear hdw
    generalize wc.drew = Wd at hdw2 ⊢
    refine wpAnyH_each (rs := [7, 9]) (by kernel_rfl) (by decide) (fun K hK q hq => ?_)
    simp only [List.mem_cons, List.not_mem_nil, or_false] at hq
    rcases hq with rfl | rfl
    · refine wpOp_listed rfl ?_
      go_wp2_with fail
      refine (HC.out _ (hBw.out _ hdw2.out)).mono ?_
      rintro e w6 ⟨⟨v, rfl, hO⟩, hb6⟩
      go_wp2_with fail
      have hG6 := hdw2.out.trans (hb6.mono hdw2.out.size)
      refine postH_normal (hK _ _ _ (Gr.of hG6) ?_)
      clear hK K
      have hO6 := Lib.hid (hO.lower hdw2.out.size)
      clear hO
      refine wpAnyH_each (rs := [9]) (by kernel_rfl) (by decide) (fun K hK q hq => ?_)
      obtain rfl := List.mem_singleton.1 hq
      refine wpOp_listed rfl ?_
      refine step_build_dg rfl _ rfl Z hZ'.out rfl ?_
      have hG7 : Below wc.heap.size wc (w6.alloc (.cells (Z.map bv).toArray 31)) := hG6.alloc hG6.size _
      refine wpList_end (postH_normal (hK _ _ _ (Gr.of hG7) ?_))
      clear hK K
      have hN7 := Lib.hid (Blk.new w6 (Z.map bv) 31)
      have hO7 : Hid (OwnD (w6.alloc (.cells (Z.map bv).toArray 31)) wc.heap.size v M) := World.ownsRow.alloc hO6.out _
      generalize w6.heap.size = gN at hN7 ⊢
      generalize w6.alloc (.cells (Z.map bv).toArray 31) = w7 at hN7 hO7 hG7 ⊢
      refine wpAnyH_each (rs := [10]) (by kernel_rfl) (by decide) (fun K hK q hq => ?_)
      obtain rfl := List.mem_singleton.1 hq
      refine wpOp_listed rfl ?_
      have hrd : Hid (Dg w7 (some ⟨gN, 0, none⟩) [Z]) := by
        show Rds _ _ _ _
        have h := hN7.out.rds 0 (Z.map bv).length
        rw [List.drop_zero, List.take_of_length_le (Nat.le_refl _)] at h
        rw [flat_one]
        exact h
      refine push_digs rfl _ _ rfl wc.heap.size v M [Z] (d16_one hZ'.out) _ (some ⟨gN, 0, none⟩) 1 1 rfl (fun h => by cases h) rfl rfl hrd.out hO7.out (by have := hM6'.out; simp; omega) hG7.size ?_
      intro v8 w8 ho8 hb8 hgr8
      have hG8 := hG7.trans hb8
      refine wpList_end (postH_normal (hK _ _ _ (Gr.of hG8) ?_))
      clear hK K
      obtain ⟨A5, c5, rfl, _, _, _, _⟩ := ho8.form
      have ho8' := Lib.hid ho8
      clear ho8 hgr8
      generalize (M ++ [Z]).length = m5 at ho8' ⊢
      refine wpAnyH_each (rs := [11]) (by kernel_rfl) (by decide) (fun K hK q hq => ?_)
      obtain rfl := List.mem_singleton.1 hq
      refine wpOp_listed rfl ?_
      go_wp2_with fail
      refine postH_normal (hK _ _ _ (Gr.of hG8) ?_)
      clear hK K
      refine wpAnyH_each (rs := [12]) (by kernel_rfl) (by decide) (fun K hK q hq => ?_)
      obtain rfl := List.mem_singleton.1 hq
      refine wpOp_listed rfl ?_
      refine wpList_row_store rfl 43 _ _ rfl [.int .i64 ((z : Int) + 1), .slice A5 m5 c5] rfl rfl (hR6.out.below hG8 hR6.out.lt) size_peaks rfl (one_peaks _ _ _ _) ?_
      intro w9 hW9 ho9
      have hG9 : Gr (w.heap.size + 1 + 1) wc w9 := (Gr.of hG8).trans (Gr.only ho9)
      refine wpList_end (postH_normal (hK _ _ _ hG9 ?_))
      clear hK K
      refine wpAnyH_each (rs := [13]) (by kernel_rfl) (by decide) (fun K hK q hq => ?_)
      obtain rfl := List.mem_singleton.1 hq
      refine wpOp_listed rfl ?_
      go_wp2_with fail
      refine postH_normal (hK _ _ _ hG9 ?_)
      clear hK K
      refine wpAnyH_done (by kernel_rfl) ?_ _
      have hend : Below w.heap.size w w9 := hB6.out.trans (hG9.below (by omega) (Nat.le_trans (by omega) (Nat.le_of_lt hrs.out)))
      have hoe := (ho8'.out.only ho9 hrs.out).lower (Nat.le_trans hB6.out.size (Nat.le_refl _))
      go_wp2_with fail
      rw [e2]
      exact bodyPost_ret (ret_cell_tmp rfl _ w9 (g := w.heap.size + 1 + 1) _ rfl rfl hW9.out pd hpd hpr size_peaks) rfl ⟨⟨_, rfl, hoe⟩, hend⟩
    · refine wpOp_listed rfl ?_
      refine step_build_dg rfl _ rfl Z hZ'.out rfl ?_
      have hG6 : Below wc.heap.size wc (Wd.alloc (.cells (Z.map bv).toArray 31)) := hdw2.out.alloc hdw2.out.size _
      refine wpList_end (postH_normal (hK _ _ _ (Gr.of hG6) ?_))
      clear hK K
      have hN6 := Lib.hid (Blk.new Wd (Z.map bv) 31)
      generalize Wd.heap.size = gN at hN6 ⊢
      generalize Wd.alloc (.cells (Z.map bv).toArray 31) = w6 at hN6 hG6 ⊢
      refine wpAnyH_each (rs := [7]) (by kernel_rfl) (by decide) (fun K hK q hq => ?_)
      obtain rfl := List.mem_singleton.1 hq
      refine wpOp_listed rfl ?_
      go_wp2_with fail
      refine (HC.out _ (hBw.out _ hG6)).mono ?_
      rintro e w7 ⟨⟨v, rfl, hO⟩, hb7⟩
      go_wp2_with fail
      have hG7 := hG6.trans (hb7.mono hG6.size)
      refine postH_normal (hK _ _ _ (Gr.of hG7) ?_)
      clear hK K
      have hO7 := Lib.hid (hO.lower hG6.size)
      have hN7 := Lib.hid (hN6.out.below hb7 hN6.out.lt)
      clear hO
      refine wpAnyH_each (rs := [10]) (by kernel_rfl) (by decide) (fun K hK q hq => ?_)
      obtain rfl := List.mem_singleton.1 hq
      refine wpOp_listed rfl ?_
      have hrd : Hid (Dg w7 (some ⟨gN, 0, none⟩) [Z]) := by
        show Rds _ _ _ _
        have h := hN7.out.rds 0 (Z.map bv).length
        rw [List.drop_zero, List.take_of_length_le (Nat.le_refl _)] at h
        rw [flat_one]
        exact h
      refine push_digs rfl _ _ rfl wc.heap.size v M [Z] (d16_one hZ'.out) _ (some ⟨gN, 0, none⟩) 1 1 rfl (fun h => by cases h) rfl rfl hrd.out hO7.out (by have := hM6'.out; simp; omega) hG7.size ?_
      intro v8 w8 ho8 hb8 hgr8
      have hG8 := hG7.trans hb8
      refine wpList_end (postH_normal (hK _ _ _ (Gr.of hG8) ?_))
      clear hK K
      obtain ⟨A5, c5, rfl, _, _, _, _⟩ := ho8.form
      have ho8' := Lib.hid ho8
      clear ho8 hgr8
      generalize (M ++ [Z]).length = m5 at ho8' ⊢
      refine wpAnyH_each (rs := [11]) (by kernel_rfl) (by decide) (fun K hK q hq => ?_)
      obtain rfl := List.mem_singleton.1 hq
      refine wpOp_listed rfl ?_
      go_wp2_with fail
      refine postH_normal (hK _ _ _ (Gr.of hG8) ?_)
      clear hK K
      refine wpAnyH_each (rs := [12]) (by kernel_rfl) (by decide) (fun K hK q hq => ?_)
      obtain rfl := List.mem_singleton.1 hq
      refine wpOp_listed rfl ?_
      refine wpList_row_store rfl 43 _ _ rfl [.int .i64 ((z : Int) + 1), .slice A5 m5 c5] rfl rfl (hR6.out.below hG8 hR6.out.lt) size_peaks rfl (one_peaks _ _ _ _) ?_
      intro w9 hW9 ho9
      have hG9 : Gr (w.heap.size + 1 + 1) wc w9 := (Gr.of hG8).trans (Gr.only ho9)
      refine wpList_end (postH_normal (hK _ _ _ hG9 ?_))
      clear hK K
      refine wpAnyH_each (rs := [13]) (by kernel_rfl) (by decide) (fun K hK q hq => ?_)
      obtain rfl := List.mem_singleton.1 hq
      refine wpOp_listed rfl ?_
      go_wp2_with fail
      refine postH_normal (hK _ _ _ hG9 ?_)
      clear hK K
      refine wpAnyH_done (by kernel_rfl) ?_ _
      have hend : Below w.heap.size w w9 := hB6.out.trans (hG9.below (by omega) (Nat.le_trans (by omega) (Nat.le_of_lt hrs.out)))
      have hoe := (ho8'.out.only ho9 hrs.out).lower (Nat.le_trans hB6.out.size (Nat.le_refl _))
      go_wp2_with fail
      rw [e2]
      exact bodyPost_ret (ret_cell_tmp rfl _ w9 (g := w.heap.size + 1 + 1) _ rfl rfl hW9.out pd hpd hpr size_peaks) rfl ⟨⟨_, rfl, hoe⟩, hend⟩

end Go.Proofs.YtlgokfgiemaklaaDoor

namespace Go.Proofs.YtlgokfgiemaklaaDoor
set_option linter.unusedVariables false
set_option linter.unusedSimpArgs false
open Go.RowKit

/-- The tops when a leaf is appended to peaks of size z. -/
def apL (z : Nat) (L : List (List UInt8)) (leaf : List UInt8) : List (List UInt8) := L.take (L.length - tro 64 z) ++ [jn (L.drop (L.length - tro 64 z)) leaf]
theorem apL_d16 {L : List (List UInt8)} (hd : D16 L) {leaf : List UInt8} (hl : leaf.length = 16) (z : Nat) : D16 (apL z L leaf) := d16_app (hd.take _) (d16_one (jn_len hl _))
theorem apL_len (z : Nat) (L : List (List UInt8)) (leaf : List UInt8) : (apL z L leaf).length = L.length - tro 64 z + 1 := by
  unfold apL
  rw [List.length_append, List.length_take]
  simp only [List.length_cons, List.length_nil]
  omega
theorem pkOk_pop {z n : Nat} (h : pkOk z n = true) : z ≤ 1099511627776 ∧ n = pop z := by
  unfold pkOk at h
  simp at h
  omega

theorem append_ok (z : Nat) (L : List (List UInt8)) (A : Option Addr) (n c : Nat) (leaf : List UInt8) (w : World) (hz : z < 1099511627776) (hok : pkOk z n = true) (hnL : n = L.length) (hd : D16 L) (hleaf : leaf.length = 16) (hA : Dg w A L) (hAn : A = none → c = 0) (hc : n ≤ c) (hn6 : n ≤ 1000000)
    (ht : Tab 2 w) (hT : TabU 1 Lib.deBruijn64tab w) :
    Calls Tryd.prog 25 #[pkv z A n c, av leaf] w fun e w' => (∃ v, e = .returned (.tuple #[.agg #[.int .i64 ((z + 1 : Nat) : Int), v], .int .i64 0]) ∧ OwnD w' w.heap.size v (apL z L leaf)) ∧ Below w.heap.size w w' := by
  have hpop := (pkOk_pop hok).2
  have htn : tro 64 z ≤ n := by rw [hpop, ← ones_pop z (by omega)]; exact tro_le 64 z
  have HT : Hid (∀ W, Below w.heap.size w W → Calls Tryd.prog 52 #[.int .u64 ((18446744073709551615 - z : Nat) : Int)] W fun e w' => e = .returned (.int .i64 (tro 64 z)) ∧ w' = W) := fun W hB => by
    have h := tz_any (18446744073709551615 - z) (by omega) (by omega) W (hT.below (by decide) hB)
    rw [ctz_not z (by omega)] at h
    exact h
  unfold apL
  rw [← hnL]
  obtain ⟨t, ht0⟩ : ∃ t, t = tro 64 z := ⟨_, rfl⟩
  rw [← ht0] at HT htn ⊢
  have hAB : ∀ W, Below w.heap.size w W → Dg W A L := fun W hB => hA.on hB
  cases A with
  | none =>
    have hl0 : L = [] := by
      by_cases hl : L = []
      · exact hl
      · have hfl := flat_len L hd
        obtain ⟨ad, hh, _⟩ := hA (by
          intro h0
          have h1 := congrArg List.length h0
          rw [List.length_map, hfl] at h1
          have := List.length_pos_iff.2 hl
          simp at h1
          omega)
        cases hh
    subst hl0
    obtain rfl : n = 0 := hnL
    obtain rfl : c = 0 := hAn rfl
    rw [show (0 : Nat) - t = 0 by omega]
    exact append_none z t [] leaf leaf w hz (by omega) (by simp) hok hleaf hleaf hd HT
      (fun W hB => mjoined_any [] leaf none 0 0 W hd hleaf rfl (by omega) (hAB W hB) (ht.on hB))
      (fun W hB => clone_any [] none 0 0 W hd rfl (hAB W hB) (fun _ => rfl) (by simp))
  | some ad =>
    by_cases hkc : n - t = c
    · have h1 : t = 0 := by omega
      have h2 : c = n := by omega
      subst h2
      rw [h1] at HT ⊢
      rw [Nat.sub_zero, List.take_of_length_le (by omega), List.drop_eq_nil_of_le (by omega)]
      refine append_full z 0 c ad L leaf leaf w hz (by omega) hn6 (by omega) hok hleaf hleaf hd HT
        (fun W hB => mjoined_any [] leaf (some ad) 0 0 W (by intro d hd; cases hd) hleaf rfl (by omega) Rds.empty (ht.on hB))
        (fun W hB => clone_any L (some ad) c c W hd hnL (hAB W hB) (fun h => by cases h) (by omega))
    · have hk : n - t ≤ n := by omega
      refine append_part z t n c (n - t) ad (L.take (n - t)) leaf _ w hz (by omega) hn6 hk hc hkc (by rw [List.length_take]; omega) hok hleaf (jn_len hleaf _) (hd.take _) HT
        (fun W hB => mjoined_any (L.drop (n - t)) leaf (some (ad.add ((n - t) * 16))) (n - (n - t)) (c - (n - t)) W (hd.drop _) hleaf (by rw [List.length_drop]; omega) (by omega) (by rw [Nat.mul_comm]; exact (hAB W hB).drop hd _) (ht.on hB))
        (fun W hB => clone_any (L.take (n - t)) (some ad) (n - t) c W (hd.take _) (by rw [List.length_take]; omega) ((hAB W hB).take hd _) (fun h => by cases h) (by rw [List.length_take]; omega))
end Go.Proofs.YtlgokfgiemaklaaDoor
