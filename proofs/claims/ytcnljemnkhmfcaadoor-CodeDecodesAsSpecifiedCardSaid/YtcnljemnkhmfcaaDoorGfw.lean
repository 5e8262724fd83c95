/-
  Contracts of stage 4: sameLength, Combine.
-/
import Derived.Test.YtcnljemnkhmfcaaDoorGfv
namespace Go.Proofs.YtcnljemnkhmfcaaDoor
set_option linter.unusedVariables false
set_option linter.unusedSimpArgs false
open Go.RowKit

set_option maxRecDepth 100000 in
set_option maxHeartbeats 1000000 in
theorem sameLength_any {B : Nat} (xs : List (List UInt8)) (A : Option Addr) (c : Nat) (r : Bool) (w : World) (hr : Rds w B A (xs.map sv)) (hl : xs.length ≤ 140737488351232) (hR : decide (∀ x ∈ xs, x.length = (xs.headD []).length) = r) :
    Calls Tryd.prog 79 #[.slice A xs.length c] w fun e w' => e = .returned (.bool r) ∧ w = w' := by
  have HR := Lib.hid hR
  clear hR
  go_enter Tryd.func79, Tryd.ntmps79
  go_wp2
  go_loopw [7] (fun i wr => ∃ k : Nat, k ≤ xs.length ∧ i = .int .i64 k ∧ w = wr ∧ ∀ x ∈ xs.take k, x.length = (xs.headD []).length) (fun i _ => xs.length - (intOf i).toNat)
  case atStart => exact ⟨0, by omega, rfl, rfl, fun x hx => by cases hx⟩
  case round =>
    obtain ⟨k, hk, rfl, rfl, hall0⟩ := hrel
    have hall := Lib.hid hall0
    clear hall0
    by_cases hlt : k < xs.length
    · have hpos : 0 < xs.length := by omega
      obtain ⟨ad, rfl, hab, hcell⟩ := hr.look (k := k) (u := sv xs[k]) (by simp [hlt])
      obtain ⟨ad2, had2, _, hcell0⟩ := hr.look (k := 0) (u := sv xs[0]) (by simp [hpos])
      obtain rfl := Option.some.inj had2
      have hx := Lib.hid (List.getElem?_eq_getElem hlt)
      have hh : Hid ((xs.headD []).length = (bs xs[0]).size) := by
        show _ = _
        rw [bs_size, List.headD_eq_head?_getD, List.head?_eq_getElem?, List.getElem?_eq_getElem hpos]
        rfl
      have HS := Lib.hid (bs_size xs[k])
      unfold sv at hcell hcell0
      generalize bs xs[k] = S at hcell HS
      generalize bs xs[0] = S0 at hcell0 hh
      generalize xs[k] = x at hx HS
      have t : (k : Int) < (xs.length : Int) := by omega
      have tp : 0 < (xs.length : Int) := by omega
      have hc0 : w.cell? ad = some (.string S0) := by
        have : ad.add 0 = ad := by unfold Addr.add; simp
        rw [this] at hcell0
        exact hcell0
      clear hcell0
      by_cases he : S.size = S0.size
      · have t1 : ((S.size : Int) != (S0.size : Int)) = false := by simp; omega
        have hn : Hid (∀ y ∈ xs.take (k + 1), y.length = (xs.headD []).length) := fun y hy => by
          rw [List.take_add_one, hx.out] at hy
          rcases List.mem_append.1 hy with h | h
          · exact hall.out y h
          · simp at h; subst h; rw [hh.out, ← he, HS.out]
        clear he
        go_wp2
        go_roundw
        case rel => exact ⟨k + 1, by omega, by go_num, trivial, hn.out⟩
        case measure => simp [intOf]; omega
      · have t1 : ((S.size : Int) != (S0.size : Int)) = true := by simp; omega
        have hf : Hid (r = false) := by
          show _ = _
          rw [← HR.out]
          exact decide_eq_false fun h => he (by rw [HS.out, ← hh.out]; exact h x (List.mem_of_getElem? hx.out))
        clear he
        go_wp2
        go_ret
        exact ⟨by rw [hf.out]; rfl, rfl⟩
    · have hf : Hid (r = true) := by
        show _ = _
        rw [← HR.out]
        have := hall.out
        rw [List.take_of_length_le (by omega)] at this
        exact decide_eq_true this
      go_wp2
      go_ret
      exact ⟨by rw [hf.out]; rfl, rfl⟩

theorem combAt_step (coef : List UInt8) (parts : List (List UInt8)) (i k : Nat) (c : UInt8) (p : List UInt8) (hc : coef[k]? = some c) (hp : parts[k]? = some p) :
    ((List.zip coef parts).take (k + 1)).foldl (fun s p => s ^^^ Gf.mul p.1 (p.2.getD i 0)) 0 = ((List.zip coef parts).take k).foldl (fun s p => s ^^^ Gf.mul p.1 (p.2.getD i 0)) 0 ^^^ Gf.mul c (p.getD i 0) := by
  have hz : (List.zip coef parts)[k]? = some (c, p) := by rw [List.getElem?_zip_eq_some]; exact ⟨hc, hp⟩
  rw [List.take_add_one, hz, Option.toList_some, List.foldl_append]
  rfl

set_option maxRecDepth 100000 in
set_option maxHeartbeats 1000000 in
theorem comb1_any {B B' : Nat} (coef : List UInt8) (parts : List (List UInt8)) (A A' : Option Addr) (c c' i gc gp : Nat) (w : World) (hlen : coef.length = parts.length) (hi : ∀ x ∈ parts, i < x.length) (hl : parts.length ≤ 140737488351232)
    (hc : Blk w gc [.slice A coef.length c] 57) (hp : Blk w gp [.slice A' parts.length c'] 32) (hr : Rds w B A (coef.map bv)) (hs : Rds w B' A' (parts.map sv)) (ht : PTab 0 w) :
    Calls Tryd.prog 80 #[.int .i64 i, .pointer (some ⟨gc, 0, none⟩), .pointer (some ⟨gp, 0, none⟩)] w fun e w' => e = .returned (bv (Gf.combAt coef parts i)) ∧ ∃ k, w' = w.drewN k := by
  have hcc : w.cell? ⟨gc, 0, none⟩ = some (.slice A coef.length c) := hc.cell rfl
  have hcp : w.cell? ⟨gp, 0, none⟩ = some (.slice A' parts.length c') := hp.cell rfl
  have hfin : Hid (Gf.combAt coef parts i = ((List.zip coef parts).take coef.length).foldl (fun s p => s ^^^ Gf.mul p.1 (p.2.getD i 0)) 0) := by
    show _ = _
    rw [List.take_of_length_le (by rw [List.length_zip]; omega)]
    rfl
  have hi' := Lib.hid hi
  have ht' := Lib.hid ht
  have HL := Lib.hid hlen
  have hll : parts.length ≤ coef.length := by omega
  have hll2 : coef.length ≤ parts.length := by omega
  have t0 : 0 ≤ (i : Int) := by omega
  clear hc hp hi ht hlen
  go_enter Tryd.func80, Tryd.ntmps80
  go_wp2_with fail
  go_loopw [5, 10] (fun s j wr => ∃ k m : Nat, k ≤ coef.length ∧ j = .int .i64 k ∧ wr = w.drewN m ∧ s = bv (((List.zip coef parts).take k).foldl (fun s p => s ^^^ Gf.mul p.1 (p.2.getD i 0)) 0)) (fun _ j _ => coef.length - (intOf j).toNat)
  case atStart => exact ⟨0, 0, by omega, rfl, rfl, rfl⟩
  case round =>
    obtain ⟨k, m, hk, rfl, rfl, rfl⟩ := hrel
    by_cases hlt : k < coef.length
    · have hlt2 : k < parts.length := by omega
      obtain ⟨ad, rfl, _, hca⟩ := hr.look (k := k) (u := bv coef[k]) (by simp [hlt])
      obtain ⟨bd, rfl, _, hcb⟩ := hs.look (k := k) (u := sv parts[k]) (by simp [hlt2])
      have hst := Lib.hid (combAt_step coef parts i k coef[k] parts[k] (List.getElem?_eq_getElem hlt) (List.getElem?_eq_getElem hlt2))
      have hix := hi'.out parts[k] (List.getElem_mem hlt2)
      generalize coef[k] = x at hca hst
      generalize parts[k] = p at hcb hst hix
      obtain ⟨y, hy⟩ : ∃ y, p[i]? = some y := ⟨_, List.getElem?_eq_getElem hix⟩
      have hst := Lib.hid (hst.out.trans (by rw [getD_of hy]))
      have gy := sv_get hy
      have hsz := bs_size p
      have tb : i < (bs p).size := by omega
      have tb' : (i : Int) < (bs p).size := by omega
      generalize ((List.zip coef parts).take k).foldl (fun s p => s ^^^ Gf.mul p.1 (p.2.getD i 0)) 0 = s0 at hst ⊢
      have H := Lib.hid (mul_any x y (w.drewN m) ht'.out)
      have hx := u8_xor_bv s0 (Gf.mul x y)
      generalize Gf.mul x y = z at H hst hx
      generalize hU : s0 ^^^ z = U at hst hx
      clear hU
      unfold sv at hcb
      generalize bs p = S at hcb gy tb tb'
      have b1 : (k : Int) < (coef.length : Int) := by omega
      have b2 : (k : Int) < (parts.length : Int) := by omega
      clear hy hsz hix
      unfold bv at hca H ⊢
      go_wp2_with fail
      refine H.out.mono ?_
      rintro e w2 ⟨rfl, m2, rfl⟩
      go_wp2_with fail
      go_roundw
      case rel => exact ⟨k + 1, m + m2, by omega, by go_num, rfl, by rw [hst.out]⟩
      case measure => simp [intOf]; omega
    · have hkk : k = coef.length := by omega
      have t : ¬ (k : Int) < (coef.length : Int) := by omega
      have hfin' := Lib.hid (hfin.out.trans (by rw [← hkk]))
      clear hkk hfin
      generalize ((List.zip coef parts).take k).foldl (fun s p => s ^^^ Gf.mul p.1 (p.2.getD i 0)) 0 = s0 at hfin' ⊢
      unfold bv
      go_wp2_with fail
      go_ret
      exact ⟨by rw [hfin'.out]; rfl, m, rfl⟩

theorem fit_comb {coef : List UInt8} {parts : List (List UInt8)} (h : parts = []) : Gf.comb coef parts = [] := by subst h; rfl

set_option maxRecDepth 100000 in
set_option maxHeartbeats 1000000 in
theorem combine_no (coef : List UInt8) (parts : List (List UInt8)) (A A' : Option Addr) (c c' : Nat) (w : World) (hl : parts.length ≤ 140737488351232) (hl2 : coef.length ≤ 140737488351232)
    (hs : Rds w w.heap.size A' (parts.map sv)) (hf : ¬ Gf.Fit coef parts) :
    Calls Tryd.prog 57 #[.slice A coef.length c, .slice A' parts.length c'] w fun e w' => e = .returned (.tuple #[sv [], .int .i64 1]) ∧ Below w.heap.size w w' := by
  obtain ⟨W2, hW2⟩ : ∃ W2, W2 = (w.alloc (.cells #[.slice A coef.length c] 57)).alloc (.cells #[.slice A' parts.length c'] 32) := ⟨_, rfl⟩
  have hB2 : Below w.heap.size w W2 := by rw [hW2]; exact ((Below.refl _ _).alloc (Nat.le_refl _) _).alloc (by simp) _
  have hB2' := Lib.hid hB2
  have hW2' := Lib.hid hW2
  by_cases hlen : coef.length = parts.length
  · have hd : decide (∀ x ∈ parts, x.length = (parts.headD []).length) = false := decide_eq_false fun h => hf ⟨hlen, h⟩
    have HS := Lib.hid (sameLength_any parts A' c' false W2 (hs.below hB2) hl hd)
    have t : ((coef.length : Int) != (parts.length : Int)) = false := by simp; omega
    clear hs hf hd hB2 hW2 hlen
    go_enter Tryd.func57, Tryd.ntmps57
    go_wp2_with fail
    generalize hg : (w.alloc _).alloc _ = Wg
    have hgW : W2 = Wg := by rw [← hg, hW2'.out]
    clear hg hW2'
    subst hgW
    refine HS.out.mono ?_
    rintro e w5 ⟨rfl, rfl⟩
    go_wp2_with fail
    go_ret2
    exact ⟨rfl, hB2'.out⟩
  · have t : ((coef.length : Int) != (parts.length : Int)) = true := by simp; omega
    clear hs hf hB2 hW2 hlen
    go_enter Tryd.func57, Tryd.ntmps57
    go_wp2_with fail
    generalize hg : (w.alloc _).alloc _ = Wg
    have hgW : W2 = Wg := by rw [← hg, hW2'.out]
    clear hg hW2'
    subst hgW
    go_ret2
    exact ⟨rfl, hB2'.out⟩

set_option maxRecDepth 100000 in
set_option maxHeartbeats 1000000 in
theorem combine_ok (coef : List UInt8) (parts : List (List UInt8)) (A A' : Option Addr) (c c' : Nat) (w : World) (hl : parts.length ≤ 140737488351232) (hm : ∀ x ∈ parts, x.length ≤ 140737488355328)
    (hr : Rds w w.heap.size A (coef.map bv)) (hs : Rds w w.heap.size A' (parts.map sv)) (hf : Gf.Fit coef parts) (ht : PTab 0 w) :
    Calls Tryd.prog 57 #[.slice A coef.length c, .slice A' parts.length c'] w fun e w' => e = .returned (.tuple #[sv (Gf.comb coef parts), .int .i64 0]) ∧ Below w.heap.size w w' := by
  obtain ⟨hlen, hall⟩ := hf
  obtain ⟨W2, hW2⟩ : ∃ W2, W2 = (w.alloc (.cells #[.slice A coef.length c] 57)).alloc (.cells #[.slice A' parts.length c'] 32) := ⟨_, rfl⟩
  have hs2 : W2.heap.size = w.heap.size + 2 := by rw [hW2]; simp
  have hB2 : Below w.heap.size w W2 := by rw [hW2]; exact ((Below.refl _ _).alloc (Nat.le_refl _) _).alloc (by simp) _
  have hC2 : Blk W2 w.heap.size [.slice A coef.length c] 57 := by rw [hW2]; exact (Blk.new _ [_] _).alloc _
  have hP2 : Blk W2 (w.heap.size + 1) [.slice A' parts.length c'] 32 := by rw [hW2]; exact (Blk.new _ [_] _).at (by simp)
  have hB2' := Lib.hid hB2
  have hW2' := Lib.hid hW2
  have hs2' := Lib.hid hs2
  have HS := Lib.hid (sameLength_any parts A' c' true W2 (hs.below hB2) hl (decide_eq_true hall))
  have t : ((coef.length : Int) != (parts.length : Int)) = false := by simp; omega
  have hmf : ∀ (fn : Fn) (first cap : Array Value) (w : World), (Instr.makeFunc fn first cap).run Tryd.prog w = .ok (.func fn first cap) w := fun _ _ _ _ => rfl
  by_cases he : parts.length = 0
  · obtain rfl : parts = [] := List.eq_nil_of_length_eq_zero he
    obtain rfl : coef = [] := List.eq_nil_of_length_eq_zero (by simpa using hlen)
    have hv := Lib.hid (fit_comb (coef := []) (parts := []) rfl)
    have q2 : W2.cell? ⟨w.heap.size + 1, 0, none⟩ = some (.slice A' 0 c') := hP2.cell rfl
    clear hs hr hall hB2 hW2 hs2 hC2 hP2 he ht hm hl hlen t
    simp only [List.length_nil] at HS ⊢
    go_enter Tryd.func57, Tryd.ntmps57
    go_wp2_with fail
    generalize hg : (w.alloc _).alloc _ = Wg
    have hgW : W2 = Wg := by rw [← hg, hW2'.out]; rfl
    clear hg hW2'
    subst hgW
    refine HS.out.mono ?_
    rintro e w5 ⟨rfl, rfl⟩
    go_wp2_with fail
    go_ret2
    exact ⟨by rw [hv.out]; rfl, hB2'.out⟩
  · have hpos : 0 < parts.length := by omega
    have tp : 0 < (parts.length : Int) := by omega
    have tn : ((parts.length : Int) == 0) = false := by simp only [beq_eq_false_iff_ne, ne_eq]; omega
    obtain ⟨bd, hbd, hblk, hcb⟩ := hs.look (k := 0) (u := sv parts[0]) (by simp [hpos])
    have hc0 : ∀ W, Below W2.heap.size W2 W → W.cell? bd = some (sv parts[0]) := fun W hB => by
      have : bd.add 0 = bd := by unfold Addr.add; simp
      rw [this] at hcb
      have h1 := (hB2.cell hblk).trans hcb
      exact (hB.cell (by omega)).trans h1
    have hh : (parts.headD []).length = parts[0].length := by
      rw [List.headD_eq_head?_getD, List.head?_eq_getElem?, List.getElem?_eq_getElem hpos]
      rfl
    have hle := hm parts[0] (List.getElem_mem hpos)
    have hr2 := hr.below hB2
    have hs2r := hs.below hB2
    have ht2 := ht.on hB2
    have HV := Lib.hid (vector_of 80 parts[0].length [.pointer (some ⟨w.heap.size, 0, none⟩), .pointer (some ⟨w.heap.size + 1, 0, none⟩)] (Gf.combAt coef parts) W2 hle hcf_comb1 (fun i hi W hB =>
      comb1_any coef parts A A' c c' i w.heap.size (w.heap.size + 1) W hlen (fun x hx => by rw [hall x hx, hh]; exact hi) hl (hC2.below hB hC2.lt) (hP2.below hB hP2.lt) (hr2.below (hB.mono (by omega))) (hs2r.below (hB.mono (by omega))) (ht2.on hB)))
    have hv : Hid ((List.range parts[0].length).map (Gf.combAt coef parts) = Gf.comb coef parts) := by show _ = _; unfold Gf.comb Gf.combN; rw [hh]
    rw [hv.out] at HV
    have hc2 := hc0 W2 (Below.refl _ _)
    have q2 : W2.cell? ⟨w.heap.size + 1, 0, none⟩ = some (.slice A' parts.length c') := hP2.cell rfl
    have hsz := bs_size parts[0]
    have hsz' : ((bs parts[0]).size : Int) = (parts[0].length : Int) := by omega
    subst hbd
    unfold sv at hc2
    generalize Gf.comb coef parts = V at HV hv
    generalize hp0 : parts[0] = p0 at hc2 hsz hsz' HV
    generalize bs p0 = S0 at hc2 hsz hsz'
    clear hs hr hall hB2 hW2 hs2 hC2 hP2 he ht hm hl hlen hr2 hs2r ht2 hcb hc0 hh hle hsz hp0 hv
    unfold sv at HV ⊢
    go_enter Tryd.func57, Tryd.ntmps57
    go_wp2_with fail
    generalize hg : (w.alloc _).alloc _ = Wg
    have hgW : W2 = Wg := by rw [← hg, hW2'.out]
    clear hg hW2'
    subst hgW
    refine HS.out.mono ?_
    rintro e w5 ⟨rfl, rfl⟩
    go_wp2_with fail
    refine HV.out.mono ?_
    rintro e w5 ⟨rfl, hb5⟩
    go_wp2_with fail
    go_ret2
    exact ⟨rfl, hB2'.out.trans (hb5.mono (by rw [hs2'.out]; omega))⟩
end Go.Proofs.YtcnljemnkhmfcaaDoor
