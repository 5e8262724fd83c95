/-
  Contracts of stage 6: Degree (the program's and the reference's), cut, last, quotient. Contracts of stage 6: the reference's Trim, Same, Eval. Contracts of stage 6: the reference's Add.
-/
import Derived.Test.YtbilfhipmebmlaaDoorPa
import Derived.Test.YtbilfhipmebmlaaDoorGfa
import Derived.Test.YtbilfhipmebmlaaDoorMq
import Derived.Test.YtbilfhipmebmlaaDoorMrb
import Derived.Test.YtbilfhipmebmlaaDoorGfv
import Derived.Test.YtbilfhipmebmlaaDoorMk2
namespace Go.Proofs.YtbilfhipmebmlaaDoor
set_option linter.unusedVariables false
set_option linter.unusedSimpArgs false
open Go.RowKit

set_option maxRecDepth 100000 in
set_option maxHeartbeats 1000000 in
theorem degree_any {B : Nat} (p : List UInt8) (A : Option Addr) (c : Nat) (w : World) (h : Rds w B A (p.map bv)) (hl : p.length ≤ 140737488355328) :
    Calls Tryd.prog 18 #[.slice A p.length c] w fun e w' => e = .returned (.int .i64 ((dg p : Int) - 1)) ∧ w' = w := by
  have ha := Lib.hid h
  obtain ⟨d, hd0⟩ : ∃ d, d = dg p := ⟨_, rfl⟩
  have hd := Lib.hid hd0
  rw [← hd0]
  obtain ⟨n, hn0⟩ : ∃ n, n = p.length := ⟨_, rfl⟩
  have hn := Lib.hid hn0
  have hdn : d ≤ n := by rw [hd0, hn0]; exact dg_le p
  rw [← hn0] at hl ⊢
  clear h hd0 hn0
  go_enter Tryd.func18, Tryd.ntmps18
  go_wp2_with fail
  go_loopw [3] (fun i wr => ∃ k : Nat, d ≤ k ∧ k ≤ n ∧ i = .int .i64 ((k : Int) - 1) ∧ wr = w) (fun i _ => (intOf i + 1).toNat)
  case atStart => exact ⟨n, hdn, by omega, by go_num, rfl⟩
  case round =>
    obtain ⟨k, hdk, hk, rfl, rfl⟩ := hrel
    cases k with
    | zero =>
      have hd00 : d = 0 := by omega
      subst hd00
      rw [show (((0 : Nat) : Int) - 1) = -1 from rfl]
      go_wp2_with fail
      go_ret
      exact ⟨rfl, by trivial⟩
    | succ k =>
      obtain ⟨x, hx⟩ : ∃ x, p[k]? = some x := ⟨_, List.getElem?_eq_getElem (by have := hn.out; omega)⟩
      obtain ⟨ad, rfl, _, hca⟩ := ha.out.look (k := k) (u := bv x) (by rw [List.getElem?_map, hx]; rfl)
      have hco := Lib.hid (co_of hx)
      unfold bv at hca
      rw [show (((k + 1 : Nat) : Int) - 1) = (k : Int) by omega]
      have t : (k : Int) < (n : Int) := by omega
      have t0 : 0 ≤ (k : Int) := by omega
      clear hx
      by_cases hz : x = 0
      · subst hz
        have hnx : d ≤ k := by rw [hd.out]; exact dg_down (by rw [← hd.out]; omega) hco.out
        go_wp2_with fail
        go_roundw
        case rel => exact ⟨k, hnx, by omega, by go_num, by trivial⟩
        case measure => simp [intOf]
      · have tne : (((x.toNat : Nat) : Int) == 0) = false := by
          simp only [beq_eq_false_iff_ne, ne_eq]; intro e; exact hz (UInt8.toNat_inj.1 (by simpa using e))
        have hnx : d = k + 1 := by rw [hd.out]; exact dg_found (by rw [← hd.out]; omega) (by rw [hco.out]; exact hz)
        subst hnx
        go_wp2_with fail
        go_ret
        exact ⟨by rw [show (((k + 1 : Nat) : Int) - 1) = (k : Int) by omega]; first | done | rfl, by trivial⟩

set_option maxRecDepth 100000 in
set_option maxHeartbeats 1000000 in
theorem refDegree_any {B : Nat} (p : List UInt8) (A : Option Addr) (c : Nat) (w : World) (h : Rds w B A (p.map bv)) (hl : p.length ≤ 140737488355328) :
    Calls Tryd.prog 19 #[.slice A p.length c] w fun e w' => e = .returned (.int .i64 ((dg p : Int) - 1)) ∧ w' = w := by
  have ha := Lib.hid h
  obtain ⟨d, hd0⟩ : ∃ d, d = dg p := ⟨_, rfl⟩
  have hd := Lib.hid hd0
  rw [← hd0]
  obtain ⟨n, hn0⟩ : ∃ n, n = p.length := ⟨_, rfl⟩
  have hn := Lib.hid hn0
  rw [← hn0] at hl ⊢
  clear h hd0 hn0
  go_enter Tryd.func19, Tryd.ntmps19
  go_wp2_with fail
  go_loopw [3, 4] (fun e i wr => ∃ k g : Nat, k ≤ n ∧ Hid (g = dg (p.take k)) ∧ e = .int .i64 ((g : Int) - 1) ∧ i = .int .i64 k ∧ wr = w) (fun _ i _ => n - (intOf i).toNat)
  case atStart => exact ⟨0, 0, by omega, rfl, rfl, rfl, rfl⟩
  case round =>
    obtain ⟨k, g, hk, hg, rfl, rfl, rfl⟩ := hrel
    by_cases hlt : k < n
    · have t : (k : Int) < (n : Int) := by omega
      have t0 : 0 ≤ (k : Int) := by omega
      obtain ⟨x, hx⟩ : ∃ x, p[k]? = some x := ⟨_, List.getElem?_eq_getElem (by have := hn.out; omega)⟩
      obtain ⟨ad, rfl, _, hca⟩ := ha.out.look (k := k) (u := bv x) (by rw [List.getElem?_map, hx]; rfl)
      have hco := Lib.hid (co_of hx)
      unfold bv at hca
      clear hx
      by_cases hz : x = 0
      · subst hz
        have hnx : Hid (g = dg (p.take (k + 1))) := by show _; rw [dg_up_zero hco.out]; exact hg.out
        go_wp2_with fail
        go_roundw
        case rel => exact ⟨k + 1, g, by omega, hnx, rfl, by go_num, by trivial⟩
        case measure => simp [intOf]; omega
      · have tne : (((x.toNat : Nat) : Int) != 0) = true := u8_int_ne hz
        have hnx : Hid (k + 1 = dg (p.take (k + 1))) := (dg_up_some (by rw [hco.out]; exact hz)).symm
        go_wp2_with fail
        go_roundw
        case rel => exact ⟨k + 1, k + 1, by omega, hnx, by rw [show (((k + 1 : Nat) : Int) - 1) = (k : Int) by omega], by go_num, by trivial⟩
        case measure => simp [intOf]; omega
    · have t : ¬ (k : Int) < (n : Int) := by omega
      have e := Lib.hid (show g = d by rw [hd.out, hg.out, show k = p.length by have := hn.out; omega, take_whole])
      go_wp2_with fail
      go_ret
      exact ⟨by rw [e.out]; first | done | rfl, by trivial⟩

set_option maxRecDepth 100000 in
set_option maxHeartbeats 1000000 in
theorem cut_any {B : Nat} (p : List UInt8) (A : Option Addr) (c : Nat) (w : World) (h : Rds w B A (p.map bv)) (hl : p.length ≤ c) (hm : p.length ≤ 140737488355328) :
    Calls Tryd.prog 101 #[.slice A p.length c] w fun e w' => e = .returned (.slice A (dg p) c) ∧ w' = w := by
  have hD := degree_any p A c w h hm
  have hle := dg_le p
  clear h
  generalize dg p = d at *
  generalize p.length = n at *
  go_enter Tryd.func101, Tryd.ntmps101
  go_wp2_with fail
  refine hD.mono ?_
  rintro e w1 ⟨rfl, rfl⟩
  go_wp2_with fail
  go_ret
  exact ⟨rfl, rfl⟩

set_option maxRecDepth 100000 in
set_option maxHeartbeats 1000000 in
theorem last_any {B : Nat} (p : List UInt8) (A : Option Addr) (c : Nat) (w : World) (h : Rds w B A (p.map bv)) (hl : p.length ≤ 140737488355328) (hp : 0 < p.length) :
    Calls Tryd.prog 103 #[.slice A p.length c] w fun e w' => e = .returned (bv (co p (p.length - 1))) ∧ w' = w := by
  obtain ⟨k, hk⟩ : ∃ k, p.length = k + 1 := ⟨p.length - 1, by omega⟩
  have hx := at_co (p := p) (k := k) (by omega)
  rw [hk, Nat.add_sub_cancel]
  generalize co p k = x at *
  obtain ⟨ad, rfl, _, hca⟩ := h.look (k := k) (u := bv x) (by rw [List.getElem?_map, hx]; rfl)
  unfold bv at hca ⊢
  have hk1 : k + 1 ≤ 140737488355328 := by omega
  clear h hx hk hl hp
  have t : (((k + 1 : Nat) : Int) - 1) = (k : Int) := by omega
  have t1 : (k : Int) < ((k + 1 : Nat) : Int) := by omega
  have t0 : 0 ≤ (k : Int) := by omega
  generalize hn : (k + 1 : Nat) = n at *
  go_enter Tryd.func103, Tryd.ntmps103
  go_wp2_with fail
  go_ret
  exact ⟨rfl, rfl⟩

set_option maxRecDepth 100000 in
set_option maxHeartbeats 1000000 in
theorem quotient_any (a b : UInt8) (w : World) (hb : b ≠ 0) (ht : PTab 0 w) :
    Calls Tryd.prog 102 #[bv a, bv b] w fun e w' => e = .returned (bv (Gf.mul a (Gf.inv b))) ∧ ∃ n, w' = w.drewN n := by
  have hI := inv_any b w hb ht
  have hM := mul_any a (Gf.inv b) w ht
  generalize Gf.inv b = i at *
  generalize Gf.mul a i = r at *
  go_enter Tryd.func102, Tryd.ntmps102
  go_wp2_with fail
  refine hI.mono ?_
  rintro e w1 ⟨rfl, rfl⟩
  go_wp2_with fail
  refine hM.mono ?_
  rintro e w1 ⟨rfl, n, rfl⟩
  go_wp2_with fail
  go_ret
  exact ⟨rfl, n, rfl⟩
end Go.Proofs.YtbilfhipmebmlaaDoor

namespace Go.Proofs.YtbilfhipmebmlaaDoor
set_option linter.unusedVariables false
set_option linter.unusedSimpArgs false
open Go.RowKit

set_option maxRecDepth 100000 in
set_option maxHeartbeats 1000000 in
theorem refSame6_any {B B' : Nat} (a b : List UInt8) (A A' : Option Addr) (c c' : Nat) (w : World) (h : Rds w B A (a.map bv)) (h' : Rds w B' A' (b.map bv)) (hl : a.length ≤ 140737488355328) :
    Calls Tryd.prog 20 #[.slice A a.length c, .slice A' b.length c'] w fun e w' => e = .returned (.bool (sameB a b)) ∧ ∃ n, w' = w.drewN n := by
  by_cases hab : a.length = b.length
  rotate_left
  · have hr := sameB_len hab
    have t : ((a.length : Int) != (b.length : Int)) = true := by simp only [bne_iff_ne, ne_eq]; omega
    rw [hr]
    clear hab h h' hr
    go_enter Tryd.func20, Tryd.ntmps20
    go_wp2_with fail
    go_ret
    exact ⟨rfl, 0, rfl⟩
  have ha := Lib.hid h
  have hb := Lib.hid h'
  obtain ⟨r, hr0⟩ : ∃ r, r = sameB a b := ⟨_, rfl⟩
  have hr := Lib.hid hr0
  rw [← hr0]
  obtain ⟨n, hn0⟩ : ∃ n, n = a.length := ⟨_, rfl⟩
  have hn : Hid (n = a.length ∧ n = b.length) := ⟨hn0, by omega⟩
  rw [show a.length = n by omega, show b.length = n by omega]
  have hnl : n ≤ 140737488355328 := by omega
  clear h h' hr0 hn0 hab hl
  go_enter Tryd.func20, Tryd.ntmps20
  go_wp2_with fail
  go_loopw [5] (fun i wr => ∃ k m : Nat, k ≤ n ∧ i = .int .i64 k ∧ Hid (a.take k = b.take k) ∧ wr = w.drewN m) (fun i _ => n - (intOf i).toNat)
  case atStart => exact ⟨0, 0, by omega, rfl, rfl, rfl⟩
  case round =>
    obtain ⟨k, m, hk, rfl, heq, rfl⟩ := hrel
    by_cases hlt : k < n
    · have t : (k : Int) < (n : Int) := by omega
      have t0 : 0 ≤ (k : Int) := by omega
      obtain ⟨x, hx⟩ : ∃ x, a[k]? = some x := ⟨_, List.getElem?_eq_getElem (by have := hn.out.1; omega)⟩
      obtain ⟨y, hy⟩ : ∃ x, b[k]? = some x := ⟨_, List.getElem?_eq_getElem (by have := hn.out.2; omega)⟩
      obtain ⟨ad, rfl, _, hca⟩ := ha.out.look (k := k) (u := bv x) (by rw [List.getElem?_map, hx]; rfl)
      obtain ⟨bd, rfl, _, hcb⟩ := hb.out.look (k := k) (u := bv y) (by rw [List.getElem?_map, hy]; rfl)
      have hx' := Lib.hid hx
      have hy' := Lib.hid hy
      unfold bv at hca hcb
      clear hx hy
      by_cases hxy : x = y
      · subst hxy
        have hnx := Lib.hid (take_next heq.out hx'.out hy'.out)
        go_wp2_with fail
        go_quiet (fail)
        go_wp2
        go_roundw
        case rel => exact ⟨k + 1, _, by omega, by go_num, hnx, by first | rfl | (go_simp; done) | (go_simp; rfl)⟩
        case measure => simp [intOf]; omega
      · have tne := u8_int_ne hxy
        have hf : Hid (r = false) := by show _ = _; rw [hr.out]; exact sameB_false hx'.out hy'.out hxy
        clear hxy
        go_wp2_with fail
        go_quiet (fail)
        go_wp2
        go_ret
        exact ⟨by rw [hf.out]; rfl, _, by first | rfl | (go_simp; done) | (go_simp; rfl)⟩
    · have t : ¬ (k : Int) < (n : Int) := by omega
      have hf : Hid (r = true) := by
        have := heq.out
        rw [List.take_of_length_le (by have := hn.out.1; omega), List.take_of_length_le (by have := hn.out.2; omega)] at this
        show _ = _
        rw [hr.out, this]
        unfold sameB
        simp
      go_wp2_with fail
      go_ret
      exact ⟨by rw [hf.out]; rfl, m, rfl⟩

set_option maxRecDepth 100000 in
set_option maxHeartbeats 1000000 in
theorem refTrim_any {B : Nat} (p : List UInt8) (A : Option Addr) (c : Nat) (w : World) (h : Rds w B A (p.map bv)) (hB : B ≤ w.heap.size) (hl : p.length ≤ 140737488355000) :
    Calls Tryd.prog 22 #[.slice A p.length c] w fun e w' => ∃ v, e = .returned v ∧ OwnB w' w.heap.size v (trim p) ∧ Below w.heap.size w w' := by
  have h' := Lib.hid h
  have hB' := Lib.hid hB
  have hvl := Lib.hid (trim_len p)
  have hle := dg_le p
  have hD := refDegree_any p A c w h (by omega)
  have hvg : Hid (∀ k, k < dg p → p[k]? = some (co p k) ∧ (trim p)[k]? = some (co p k)) := fun k hk => ⟨at_co (by omega), by rw [trim_at hk, at_co (by omega)]⟩
  clear h hB
  generalize trim p = V at hvl hvg ⊢
  generalize dg p = d at *
  obtain ⟨N, hN0⟩ : ∃ N, N = p.length := ⟨_, rfl⟩
  rw [← hN0] at hl hle hD ⊢
  clear hN0
  go_enter Tryd.func22, Tryd.ntmps22
  go_wp2_with fail
  refine hD.mono ?_
  rintro e w1 ⟨rfl, rfl⟩
  clear hD
  go_wp2_with fail
  go_loopw [3, 5] (fun v i wr => ∃ k : Nat, k ≤ d ∧ i = .int .i64 k ∧ OwnB wr w1.heap.size v (V.take k) ∧ Below w1.heap.size w1 wr) (fun _ i _ => d - (intOf i).toNat)
  case atStart => exact ⟨0, by omega, rfl, ownB_nil _ _, Below.refl _ _⟩
  case round =>
    obtain ⟨k, hk, rfl, ho, hbw⟩ := hrel
    have hsz := hbw.size
    by_cases hlt : k < d
    · have t : (k : Int) ≤ (d : Int) - 1 := by omega
      have t2 : (k : Int) < (N : Int) := by omega
      have t0 : 0 ≤ (k : Int) := by omega
      obtain ⟨hp, hv⟩ := hvg.out k hlt
      generalize co p k = x at hp hv
      obtain ⟨ad, rfl, _, hca⟩ := (h'.out.below (hbw.mono hB'.out)).look (k := k) (u := bv x) (by rw [List.getElem?_map, hp]; rfl)
      have htk := Lib.hid (take_snoc hv)
      have hl : (V.take k).length ≤ 140737488355300 := by rw [List.length_take]; omega
      unfold bv at hca
      clear hp hv
      go_wp2_with (at_builtin; go_must (refine push_byte rfl _ _ rfl w1.heap.size u3 (V.take k) x _ rfl rfl rfl ho hl hsz ?_); intro v' w2 ho1 hon1)
      go_roundw
      case rel => exact ⟨k + 1, by omega, by go_num, by rw [htk.out]; exact ho1, hbw.trans (hon1.below ho hsz)⟩
      case measure => simp [intOf]; omega
    · have t : ¬ (k : Int) ≤ (d : Int) - 1 := by omega
      have hkk : V.take k = V := List.take_of_length_le (by rw [hvl.out]; omega)
      rw [hkk] at ho
      go_wp2_with fail
      go_ret
      exact ⟨_, by first | rfl | (go_simp; done) | (go_simp; rfl), ho, hbw⟩

set_option maxRecDepth 100000 in
set_option maxHeartbeats 1000000 in
theorem refEval_any {B : Nat} (p : List UInt8) (x : UInt8) (A : Option Addr) (c : Nat) (w : World) (h : Rds w B A (p.map bv)) (hl : p.length ≤ 140737488355328) :
    Calls Tryd.prog 17 #[.slice A p.length c, bv x] w fun e w' => e = .returned (bv (ev p x)) ∧ w' = w := by
  have h' := Lib.hid h
  have HM := Lib.hid (fun a b W => refMul_any a b W)
  have hstep : Hid (∀ k, k < p.length → p[k]? = some (co p k) ∧ ev (p.take (k + 1)) x = ev (p.take k) x ^^^ Gf.mul (co p k) (xp x k)) := fun k hk => ⟨at_co hk, ev_take_succ x hk⟩
  have hend := Lib.hid (show ev (p.take p.length) x = ev p x by rw [take_whole])
  clear h
  obtain ⟨F, hF⟩ : ∃ F : Nat → UInt8, ∀ k, F k = ev (p.take k) x := ⟨_, fun _ => rfl⟩
  obtain ⟨G, hG⟩ : ∃ G : Nat → UInt8, ∀ k, G k = xp x k := ⟨_, fun _ => rfl⟩
  have hF0 : F 0 = 0 := by rw [hF]; rfl
  have hG0 : G 0 = 1 := by rw [hG]; rfl
  have hGs : Hid (∀ k, G (k + 1) = Gf.mul (G k) x) := fun k => by rw [hG, hG]; rfl
  have hFs : Hid (∀ k, k < p.length → p[k]? = some (co p k) ∧ F (k + 1) = F k ^^^ Gf.mul (co p k) (G k)) := fun k hk => by rw [hF, hF, hG]; exact hstep.out k hk
  have hFe : Hid (F p.length = ev p x) := by show F p.length = _; rw [hF]; exact hend.out
  clear hF hG hstep hend
  generalize ev p x = r at *
  obtain ⟨N, hN0⟩ : ∃ N, N = p.length := ⟨_, rfl⟩
  rw [← hN0] at hl hFs hFe ⊢
  clear hN0
  have hF0' := Lib.hid hF0
  have hG0' := Lib.hid hG0
  clear hF0 hG0
  unfold bv
  go_enter Tryd.func17, Tryd.ntmps17
  go_wp2_with fail
  go_loopw [5, 6, 7] (fun s q i wr => ∃ k : Nat, k ≤ N ∧ i = .int .i64 k ∧ s = bv (F k) ∧ q = bv (G k) ∧ wr = w) (fun _ _ i _ => N - (intOf i).toNat)
  case atStart => exact ⟨0, by omega, rfl, by rw [hF0'.out]; rfl, by rw [hG0'.out]; rfl, rfl⟩
  case round =>
    obtain ⟨k, hk, rfl, rfl, rfl, rfl⟩ := hrel
    by_cases hlt : k < N
    · have t : (k : Int) < (N : Int) := by omega
      have t0 : 0 ≤ (k : Int) := by omega
      obtain ⟨hp, hf⟩ := hFs.out k hlt
      have hg := hGs.out k
      generalize co p k = y at hp hf
      obtain ⟨ad, rfl, _, hca⟩ := h'.out.look (k := k) (u := bv y) (by rw [List.getElem?_map, hp]; rfl)
      have H1 := HM.out y (G k) wr
      have H2 := HM.out (G k) x wr
      rw [← hg] at H2
      have hf' := Lib.hid hf
      unfold bv at hca
      clear hp hf hg
      obtain ⟨f', hf1⟩ : ∃ f', f' = F (k + 1) := ⟨_, rfl⟩
      obtain ⟨g', hg1⟩ : ∃ g', g' = G (k + 1) := ⟨_, rfl⟩
      rw [← hf1] at hf'
      rw [← hg1] at H2
      have hf1' := Lib.hid hf1
      have hg1' := Lib.hid hg1
      clear hf1 hg1
      generalize F k = f at *
      generalize G k = g at *
      generalize Gf.mul y g = m at *
      unfold bv
      go_wp2_with fail
      refine H1.mono ?_
      rintro e w2 ⟨rfl, rfl⟩
      unfold bv
      go_wp2_with fail
      refine H2.mono ?_
      rintro e w2 ⟨rfl, rfl⟩
      unfold bv
      go_wp2_with fail
      go_roundw
      case rel => exact ⟨k + 1, by omega, by go_num, by rw [u8_xor_bv, ← hf'.out, hf1'.out]; first | done | rfl, by rw [hg1'.out]; first | done | rfl, by trivial⟩
      case measure => simp [intOf]; omega
    · have t : ¬ (k : Int) < (N : Int) := by omega
      have e : Hid (F k = r) := by show F k = r; rw [show k = N by omega]; exact hFe.out
      go_wp2_with fail
      go_ret
      exact ⟨by rw [e.out]; first | done | rfl, rfl⟩
end Go.Proofs.YtbilfhipmebmlaaDoor

namespace Go.Proofs.YtbilfhipmebmlaaDoor
set_option linter.unusedVariables false
set_option linter.unusedSimpArgs false
open Go.RowKit

theorem co_set {X : List UInt8} {k : Nat} (h : k < X.length) (y : UInt8) (j : Nat) : co (X.set k y) j = if j = k then y else co X j := by
  unfold co
  rw [List.getD_eq_getElem?_getD, List.getD_eq_getElem?_getD, List.getElem?_set]
  by_cases hj : k = j
  · subst hj; simp [h]
  · simp [hj, show ¬ j = k from fun e => hj e.symm]
theorem co_zeros (n j : Nat) : co (List.replicate n 0) j = 0 := by
  unfold co
  rw [List.getD_eq_getElem?_getD, List.getElem?_replicate]
  split <;> rfl
theorem co_vsum (a b : List UInt8) (j : Nat) : co (Gf.vsum a b) j = co a j ^^^ co b j := Gf.getD_vsum a b j
/-- A block's byte is set. -/
theorem blk_set {w : World} {g k : Nat} {X : List UInt8} {y : UInt8} {t : TypeId} (h : Hid (Blk w g (splice (X.map bv) k (bv y).cells.toList) t)) (hk : k < X.length) : Blk w g ((X.set k y).map bv) t := by
  have hh := h.out
  rw [show (bv y).cells.toList = [bv y] from rfl, splice_set _ _ _ (by rw [List.length_map]; exact hk), ← List.map_set] at hh
  exact hh

theorem ownB_low {w : World} {base B : Nat} {v : Value} {l : List UInt8} (h : OwnB w base v l) (hB : B ≤ base) : OwnB w B v l := by
  obtain ⟨h1, h2⟩ := h
  refine ⟨h1, ?_⟩
  rcases h2 with h2 | ⟨g, cap, cur, e1, e2, e3⟩
  · exact .inl h2
  · exact .inr ⟨g, cap, cur, e1, Nat.le_trans hB e2, e3⟩

set_option maxRecDepth 100000 in
set_option maxHeartbeats 4000000 in
theorem refAdd_any {B : Nat} (a b : List UInt8) (A A' : Option Addr) (c c' : Nat) (w : World) (h : Rds w B A (a.map bv)) (h' : Rds w B A' (b.map bv)) (hB : B ≤ w.heap.size) (hla : a.length ≤ 100000) (hlb : b.length ≤ 100000) :
    Calls Tryd.prog 24 #[.slice A a.length c, .slice A' b.length c'] w fun e w' => ∃ v, e = .returned v ∧ OwnB w' w.heap.size v (trim (Gf.vsum a b)) ∧ Below w.heap.size w w' := by
  obtain ⟨n, hn0⟩ : ∃ n, n = max a.length b.length := ⟨_, rfl⟩
  have hmax : (if (a.length : Int) < (b.length : Int) then (b.length : Int) else (a.length : Int)) = (n : Int) := by split <;> omega
  have hmax2 : (if a.length < b.length then (b.length : Int) else (a.length : Int)) = (n : Int) := by split <;> omega
  obtain ⟨W1, hW1⟩ : ∃ W1, W1 = w.alloc (.cells (madeCells #[.int .u8 0] n) 5) := ⟨_, rfl⟩
  have hN1 : Hid (Below w.heap.size w W1) := by show Below _ _ _; rw [hW1]; exact (Below.refl _ _).alloc (Nat.le_refl _) _
  have hZ1 : Hid (Blk W1 w.heap.size ((List.replicate n (0 : UInt8)).map bv) 5) := by
    show Blk _ _ _ _
    rw [hW1, made_zeros, zeros_row]
    exact Blk.new _ _ _
  have hmk := run_make_row' (P := Tryd.prog) 22 5 (.int .u8 0) 1 Tryd.underlying22 infoByte rfl .i64 .i64 n (by omega) (by omega) w
  rw [← hW1] at hmk
  have ha := Lib.hid h
  have hb := Lib.hid h'
  have hBs := Lib.hid hB
  obtain ⟨na, hna0⟩ : ∃ k, k = a.length := ⟨_, rfl⟩
  obtain ⟨nb, hnb0⟩ : ∃ k, k = b.length := ⟨_, rfl⟩
  have hna := Lib.hid hna0
  have hnb := Lib.hid hnb0
  rw [← hna0, ← hnb0] at hmax hmax2 ⊢
  have hnan : na ≤ n := by omega
  have hnbn : nb ≤ n := by omega
  have hnl : n ≤ 100000 := by omega
  have hn := Lib.hid hn0
  clear h h' hB hla hlb hn0 hna0 hnb0 hW1
  go_enter Tryd.func24, Tryd.ntmps24
  go_wp2_with fail
  clear hmk
  go_loopw [6] (fun i wr => ∃ (k : Nat) (X : List UInt8), k ≤ na ∧ i = .int .i64 k ∧ Hid (X.length = n ∧ ∀ j, co X j = (if j < k then co a j else 0)) ∧ Hid (Blk wr w.heap.size (X.map bv) 5) ∧ Hid (Below w.heap.size w wr)) (fun i _ => na - (intOf i).toNat)
  case atStart => exact ⟨0, _, by omega, rfl, ⟨List.length_replicate, fun j => by rw [co_zeros]; rfl⟩, hZ1, hN1⟩
  case round =>
    obtain ⟨k, X, hk, rfl, hX, hK', hBw⟩ := hrel
    by_cases hlt : k < na
    · have t : (k : Int) < (na : Int) := by omega
      have t2 : (k : Int) < (n : Int) := by omega
      have t0 : 0 ≤ (k : Int) := by omega
      have hx := at_co (p := a) (k := k) (by rw [← hna.out]; exact hlt)
      have hX1 := at_co (p := X) (k := k) (by rw [hX.out.1]; omega)
      obtain ⟨ad, rfl, hab, hca⟩ := (ha.out.below (hBw.out.mono hBs.out)).look (k := k) (u := bv (co a k)) (by rw [List.getElem?_map, hx]; rfl)
      have hcX := hK'.out.cell (j := k) (v := bv (co X k)) (by rw [List.getElem?_map, hX1]; rfl)
      have hnx : Hid ((X.set k (co X k ^^^ co a k)).length = n ∧ ∀ j, co (X.set k (co X k ^^^ co a k)) j = (if j < k + 1 then co a j else 0)) := by
        refine ⟨by rw [List.length_set]; exact hX.out.1, fun j => ?_⟩
        rw [co_set (by rw [hX.out.1]; omega), hX.out.2 k, hX.out.2 j]
        by_cases hj : j = k
        · subst hj; simp
        · rw [if_neg hj]
          by_cases hjk : j < k
          · rw [if_pos hjk, if_pos (by omega)]
          · rw [if_neg hjk, if_neg (by omega)]
      have hxx := u8_xor_bv (co X k) (co a k)
      have hkX : Hid (k < X.length) := by show _ < _; rw [hX.out.1]; omega
      have hfit : Hid (k + 1 ≤ (X.map bv).length) := by show _ ≤ _; rw [List.length_map, hX.out.1]; omega
      generalize co a k = u at *
      generalize co X k = v at *
      generalize v ^^^ u = y at *
      unfold bv at hca hcX
      have za : ∀ z : ExtOf wr.drew, z.world.cell? (ad.add k) = some (.int .u8 (u.toNat : Int)) := fun z => (Below.cell (p := ad.add k) (z.ext) (by rw [add_block]; exact Nat.lt_of_lt_of_le hab (Nat.le_trans hBs.out hBw.out.size))).trans hca
      have zx : ∀ z : ExtOf wr.drew, z.world.cell? ⟨w.heap.size, k, none⟩ = some (.int .u8 (v.toNat : Int)) := fun z => (Below.cell (p := ⟨w.heap.size, k, none⟩) (z.ext) hK'.out.lt).trans hcX
      clear hx hX1
      go_wp2_with fail
      refine wp_region_planM [12] [(true, 0), (true, 1), (true, 2), (true, 3), (true, 4), (true, 5), (true, 6), (true, 7), (true, 8), (true, 9), (true, 10), (true, 11), (false, 12)] (by decide) (by kernel_rfl) (by kernel_rfl) (by decide) (by intro c a d v w h; cases d <;> exact h) ?_
      change wpPlanM _ _ _ _ _ _ wr.drew
      iterate 12 (refine wpPlanM_plain rfl (fun K hK => ?_); go_simp; refine hK _ ?_; clear hK K)
      clear za zx
      refine wpPlanM_call rfl (fun K hK => ?_)
      refine wpList_blk_store rfl 5 _ _ rfl k (bv y) rfl rfl hK'.out.drew size_u8 hfit.out (one_u8 y) ?_
      intro w7 hw7 ho7
      refine wpList_end (planPostL_normal ⟨.inl (by decide), hK _ _ ?_⟩)
      clear hK K
      refine wpPlanM_nil ?_
      have hK7 := Lib.hid (blk_set hw7 hkX.out)
      have ho7' : Only w.heap.size wr w7 := ⟨ho7.os, ho7.tape, ho7.output, ho7.size, ho7.block⟩
      have hB7 := Lib.hid (hBw.out.trans ((ho7'.below (Nat.le_refl _))))
      clear hw7 ho7 ho7'
      go_wp2_with fail
      go_roundw
      case rel => exact ⟨k + 1, X.set k y, by omega, by go_num, hnx, hK7, hB7⟩
      case measure => simp [intOf]; omega
    · have t : ¬ (k : Int) < (na : Int) := by omega
      have hXa : Hid (∀ j, co X j = co a j) := fun j => by
        rw [hX.out.2 j]
        by_cases hj : j < k
        · rw [if_pos hj]
        · rw [if_neg hj, co_out (p := a) (by rw [← hna.out]; omega)]
      go_wp2_with fail
      go_loopw [7] (fun i wr => ∃ (k : Nat) (X : List UInt8), k ≤ nb ∧ i = .int .i64 k ∧ Hid (X.length = n ∧ ∀ j, co X j = co a j ^^^ (if j < k then co b j else 0)) ∧ Hid (Blk wr w.heap.size (X.map bv) 5) ∧ Hid (Below w.heap.size w wr)) (fun i _ => nb - (intOf i).toNat)
      case atStart => exact ⟨0, X, by omega, rfl, ⟨hX.out.1, fun j => by rw [hXa.out j]; simp⟩, hK', hBw⟩
      case round =>
        obtain ⟨k, X, hk, rfl, hX, hK', hBw⟩ := hrel
        by_cases hlt : k < nb
        · have t : (k : Int) < (nb : Int) := by omega
          have t2 : (k : Int) < (n : Int) := by omega
          have t0 : 0 ≤ (k : Int) := by omega
          have hx := at_co (p := b) (k := k) (by rw [← hnb.out]; exact hlt)
          have hX1 := at_co (p := X) (k := k) (by rw [hX.out.1]; omega)
          obtain ⟨ad, rfl, hab, hca⟩ := (hb.out.below (hBw.out.mono hBs.out)).look (k := k) (u := bv (co b k)) (by rw [List.getElem?_map, hx]; rfl)
          have hcX := hK'.out.cell (j := k) (v := bv (co X k)) (by rw [List.getElem?_map, hX1]; rfl)
          have hnx : Hid ((X.set k (co X k ^^^ co b k)).length = n ∧ ∀ j, co (X.set k (co X k ^^^ co b k)) j = co a j ^^^ (if j < k + 1 then co b j else 0)) := by
            refine ⟨by rw [List.length_set]; exact hX.out.1, fun j => ?_⟩
            rw [co_set (by rw [hX.out.1]; omega), hX.out.2 k, hX.out.2 j]
            by_cases hj : j = k
            · subst hj; simp
            · rw [if_neg hj]
              by_cases hjk : j < k
              · rw [if_pos hjk, if_pos (by omega)]
              · rw [if_neg hjk, if_neg (by omega)]
          have hxx := u8_xor_bv (co X k) (co b k)
          have hkX : Hid (k < X.length) := by show _ < _; rw [hX.out.1]; omega
          have hfit : Hid (k + 1 ≤ (X.map bv).length) := by show _ ≤ _; rw [List.length_map, hX.out.1]; omega
          generalize co b k = u at *
          generalize co X k = v at *
          generalize v ^^^ u = y at *
          unfold bv at hca hcX
          have za : ∀ z : ExtOf wr.drew, z.world.cell? (ad.add k) = some (.int .u8 (u.toNat : Int)) := fun z => (Below.cell (p := ad.add k) (z.ext) (by rw [add_block]; exact Nat.lt_of_lt_of_le hab (Nat.le_trans hBs.out hBw.out.size))).trans hca
          have zx : ∀ z : ExtOf wr.drew, z.world.cell? ⟨w.heap.size, k, none⟩ = some (.int .u8 (v.toNat : Int)) := fun z => (Below.cell (p := ⟨w.heap.size, k, none⟩) (z.ext) hK'.out.lt).trans hcX
          clear hx hX1
          go_wp2_with fail
          refine wp_region_planM [12] [(true, 0), (true, 1), (true, 2), (true, 3), (true, 4), (true, 5), (true, 6), (true, 7), (true, 8), (true, 9), (true, 10), (true, 11), (false, 12)] (by decide) (by kernel_rfl) (by kernel_rfl) (by decide) (by intro c a d v w h; cases d <;> exact h) ?_
          change wpPlanM _ _ _ _ _ _ wr.drew
          iterate 12 (refine wpPlanM_plain rfl (fun K hK => ?_); go_simp; refine hK _ ?_; clear hK K)
          clear za zx
          refine wpPlanM_call rfl (fun K hK => ?_)
          refine wpList_blk_store rfl 5 _ _ rfl k (bv y) rfl rfl hK'.out.drew size_u8 hfit.out (one_u8 y) ?_
          intro w7 hw7 ho7
          refine wpList_end (planPostL_normal ⟨.inl (by decide), hK _ _ ?_⟩)
          clear hK K
          refine wpPlanM_nil ?_
          have hK7 := Lib.hid (blk_set hw7 hkX.out)
          have ho7' : Only w.heap.size wr w7 := ⟨ho7.os, ho7.tape, ho7.output, ho7.size, ho7.block⟩
          have hB7 := Lib.hid (hBw.out.trans ((ho7'.below (Nat.le_refl _))))
          clear hw7 ho7 ho7'
          go_wp2_with fail
          go_roundw
          case rel => exact ⟨k + 1, X.set k y, by omega, by go_num, hnx, hK7, hB7⟩
          case measure => simp [intOf]; omega
        · have t : ¬ (k : Int) < (nb : Int) := by omega
          have hXb : Hid (trim X = trim (Gf.vsum a b)) := by
            show _ = _
            refine trim_ext fun j => ?_
            rw [co_vsum, hX.out.2 j]
            by_cases hj : j < k
            · rw [if_pos hj]
            · rw [if_neg hj, co_out (p := b) (by rw [← hnb.out]; omega)]
          have hrd : Hid (Rds wr wr.heap.size (some ⟨w.heap.size, 0, none⟩) (X.map bv)) := by
            have := hK'.out.rds 0 n
            rw [List.drop_zero, List.take_of_length_le (by rw [List.length_map, hX.out.1]; exact Nat.le_refl _)] at this
            exact this
          have hT := refTrim_any X (some ⟨w.heap.size, 0, none⟩) n wr hrd.out (Nat.le_refl _) (by rw [hX.out.1]; omega)
          rw [hX.out.1, hXb.out] at hT
          have hT' := Lib.hid hT
          clear hT
          go_wp2_with fail
          refine hT'.out.mono ?_
          rintro e w8 ⟨v8, rfl, ho8, hb8⟩
          have hfin := Lib.hid (And.intro (ownB_low ho8 hBw.out.size) (hBw.out.trans (hb8.mono hBw.out.size)))
          clear ho8 hb8
          go_wp2_with fail
          go_ret
          exact ⟨_, by first | rfl | (go_simp; done) | (go_simp; rfl), hfin.out.1, hfin.out.2⟩
end Go.Proofs.YtbilfhipmebmlaaDoor
