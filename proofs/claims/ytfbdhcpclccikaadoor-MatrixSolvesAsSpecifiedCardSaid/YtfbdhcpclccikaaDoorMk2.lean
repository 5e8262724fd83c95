/-
  Contracts of stage 5: kernelRow, Contains.
-/
import Derived.Test.YtfbdhcpclccikaaDoorMy
namespace Go.Proofs.YtfbdhcpclccikaaDoor
set_option linter.unusedVariables false
set_option linter.unusedSimpArgs false
open Go.RowKit

/-- Does a list contain a number? -/
def hasB (l : List Nat) (v : Nat) : Bool := l.contains v
/-- A row of the kernel. -/
def kerX (Mr : List (List UInt8)) (piv : List Nat) (n free : Nat) : List UInt8 := setP Mr free piv 0 ((List.replicate n 0).set free 1)
theorem kerX_len (Mr : List (List UInt8)) (piv : List Nat) (n free : Nat) : (kerX Mr piv n free).length = n := by
  unfold kerX; rw [setP_len]; simp
/-- What kernelRow ends with. -/
def KerEnd (w : World) (n : Nat) (l : List UInt8) (e : Ending) (w' : World) : Prop :=
  ∃ xb, e = .returned (.slice (some ⟨xb, 0, none⟩) n n) ∧ w.heap.size ≤ xb ∧ Blk w' xb (l.map bv) 5 ∧ Below w.heap.size w w'

set_option maxRecDepth 100000 in
set_option maxHeartbeats 4000000 in
theorem kernelRow_any {B : Nat} (Mr : List (List UInt8)) (piv : List Nat) (A Ap : Option Addr) (rows c cp n free cc : Nat) (w : World) (h : Mat w B A Mr) (hr : Rds w B Ap (piv.map pv)) (hB : B ≤ w.heap.size) (hrows : rows = Mr.length) (hrect : Rect Mr cc) (hncc : n ≤ cc) (hn : n ≤ 10000) (hf : free < n) (hplt : ∀ p ∈ piv, p < n) (hpl : piv.length ≤ rows) (hm : rows ≤ 100000) :
    Calls Tryd.prog 80 #[.slice A rows c, .slice Ap piv.length cp, .int .i64 n, .int .i64 free] w (KerEnd w n (kerX Mr piv n free)) := by
  obtain ⟨W1, hW1⟩ : ∃ W1, W1 = w.alloc (.cells (madeCells #[.int .u8 0] n) 5) := ⟨_, rfl⟩
  have hN1 : Hid (Nu w W1) := by show Nu _ _; rw [hW1]; exact (Below.refl _ _).alloc (Nat.le_refl _) _
  have hZ1 : Hid (Blk W1 w.heap.size ((List.replicate n (0 : UInt8)).map bv) 5) := by
    show Blk _ _ _ _
    rw [hW1, made_zeros, zeros_row]
    exact Blk.new _ _ _
  have hmk := run_make_row' (P := Tryd.prog) 43 5 (.int .u8 0) 1 Tryd.underlying43 infoByte rfl .i64 .i64 n (by omega) (by omega) w
  rw [← hW1] at hmk
  have h' := Lib.hid h
  have hr' := Lib.hid hr
  have hBs := Lib.hid hB
  have hrw := Lib.hid hrows
  have hrc := Lib.hid hrect
  have hpt := Lib.hid hplt
  obtain ⟨xs, hxs0⟩ : ∃ x, x = kerX Mr piv n free := ⟨_, rfl⟩
  have hxs := Lib.hid hxs0
  rw [← hxs0]
  obtain ⟨pl, hpl0⟩ : ∃ k, k = piv.length := ⟨_, rfl⟩
  have hpl' := Lib.hid hpl0
  rw [← hpl0] at hpl ⊢
  have tf : (free : Int) < (n : Int) := by omega
  have tf0 : 0 ≤ (free : Int) := by omega
  have hfit0 : Hid (free + 1 ≤ ((List.replicate n (0 : UInt8)).map bv).length) := by show _ ≤ _; simp; omega
  clear hW1 h hr hB hrows hrect hplt hxs0 hpl0
  go_enter Tryd.func80, Tryd.ntmps80
  go_wp2_with (refine wpList_blk_store rfl 5 _ _ rfl free (bv 1) rfl rfl hZ1.out size_u8 hfit0.out (one_u8b 1) ?_; intro w2 hw2 ho2)
  have hK2 : Hid (Blk w2 w.heap.size (((List.replicate n (0 : UInt8)).set free 1).map bv) 5) := by
    show Blk _ _ _ _
    have hh := hw2.out
    rw [show (bv 1).cells.toList = [bv 1] from rfl, splice_set _ _ _ hfit0.out, ← List.map_set] at hh
    exact hh
  have hOn2 := Lib.hid ho2
  clear hw2 ho2
  go_wp2_with fail
  go_loopw [19] (fun v wr => ∃ (q : Nat) (xq : List UInt8), q ≤ pl ∧ v = .int .i64 q ∧ Only w.heap.size W1 wr ∧ Blk wr w.heap.size (xq.map bv) 5 ∧ xq.length = n ∧ Hid (setP Mr free (piv.drop q) q xq = xs)) (fun v _ => pl - (intOf v).toNat)
  case atStart => exact ⟨0, (List.replicate n 0).set free 1, by omega, rfl, hOn2.out, hK2.out, by simp, by show _ = _; rw [List.drop_zero]; exact hxs.out.symm⟩
  case round =>
    obtain ⟨q, xq, hq, rfl, hOn0, hK0, hxl0, hst⟩ := hrel
    have hOn := Lib.hid hOn0
    have hK := Lib.hid hK0
    have hxl := Lib.hid hxl0
    have hBw : Hid (Below B w wr) := (Below.mono hN1.out hBs.out).trans (hOn0.below hBs.out)
    clear hOn0 hK0 hxl0
    by_cases hlq : q < pl
    · have tq : (q : Int) < (pl : Int) := by omega
      have tq0 : 0 ≤ (q : Int) := by omega
      have tqr : (q : Int) < (rows : Int) := by omega
      obtain ⟨p, hp⟩ : ∃ p, piv[q]? = some p := ⟨_, List.getElem?_eq_getElem (by have := hpl'.out; omega)⟩
      have hpn := hpt.out p (List.mem_of_getElem? hp)
      obtain ⟨ap, rfl, hab, hcp⟩ := (hr'.out.below hBw.out).look (k := q) (u := pv p) (by rw [List.getElem?_map, hp]; rfl)
      obtain ⟨m, hm0⟩ : ∃ m, Mr[q]? = some m := ⟨_, List.getElem?_eq_getElem (by have := hrw.out; omega)⟩
      have hml : m.length = cc := hrc.out.at hm0
      obtain ⟨x, hx0⟩ : ∃ x, m[free]? = some x := ⟨_, List.getElem?_eq_getElem (by omega)⟩
      obtain ⟨ad, a, c', rfl, _, hcb, _, hcx⟩ := (h'.out.below hBw.out).head hm0 hx0
      have hxe : Hid (el Mr q free = x) := el_of hm0 hx0
      rw [hml] at hcb
      have tp : (p : Int) < (n : Int) := by omega
      have tp0 : 0 ≤ (p : Int) := by omega
      have tfc : (free : Int) < (cc : Int) := by omega
      have hfit : Hid (p + 1 ≤ (xq.map bv).length) := by show _ ≤ _; rw [List.length_map, hxl.out]; exact hpn
      have hnx : Hid (setP Mr free (piv.drop (q + 1)) (q + 1) (xq.set p x) = xs) := by
        show _ = _
        rw [← hst.out, List.drop_eq_getElem_cons (show q < piv.length by have := hpl'.out; omega)]
        conv => rhs; unfold setP
        rw [hxe.out, show piv[q]'(by have := hpl'.out; omega) = p from (List.getElem?_eq_some_iff.1 hp).2]
      unfold bv at hcx
      unfold pv at hcp
      clear hm0 hx0 hp hab hml
      go_wp2_with (refine wpList_blk_store rfl 5 _ _ rfl p (bv x) rfl rfl hK.out size_u8 hfit.out (one_u8b x) ?_; intro w5 hw5 ho5)
      have hK5 : Hid (Blk w5 w.heap.size ((xq.set p x).map bv) 5) := by
        show Blk _ _ _ _
        have hh := hw5.out
        rw [show (bv x).cells.toList = [bv x] from rfl, splice_set _ _ _ hfit.out, ← List.map_set] at hh
        exact hh
      have hOn5 := Lib.hid (hOn.out.trans ho5)
      clear hw5 ho5
      go_wp2_with fail
      go_roundw
      case rel => exact ⟨q + 1, xq.set p x, by omega, by go_num, hOn5.out, hK5.out, by rw [List.length_set]; exact hxl.out, hnx⟩
      case measure => simp [intOf]; omega
    · have tq : ¬ (q : Int) < (pl : Int) := by omega
      have hxq : Hid (xq = xs) := by
        show _ = _
        rw [← hst.out, List.drop_eq_nil_of_le (by have := hpl'.out; omega)]
        rfl
      have hfin : Hid (KerEnd w n xs (.returned (.slice (some ⟨w.heap.size, 0, none⟩) n n)) wr) := ⟨_, rfl, Nat.le_refl _, by rw [← hxq.out]; exact hK.out, Below.trans hN1.out (hOn.out.below (Nat.le_refl _))⟩
      go_wp2_with fail
      go_ret
      exact hfin.out

set_option maxRecDepth 100000 in
set_option maxHeartbeats 1000000 in
theorem indexI_any {B : Nat} (l : List Nat) (v : Nat) (A : Option Addr) (c : Nat) (w : World) (h : Rds w B A (l.map pv)) (hl : l.length ≤ 1000000) :
    Calls Tryd.prog 104 #[.slice A l.length c, .int .i64 v] w fun e w' => (∃ z : Int, e = .returned (.int .i64 z) ∧ decide (0 ≤ z) = hasB l v) ∧ w' = w := by
  have h' := Lib.hid h
  clear h
  go_enter Tryd.func104, Tryd.ntmps104
  go_wp2_with fail
  go_loopw [8] (fun i wr => ∃ k : Nat, k ≤ l.length ∧ i = .int .i64 k ∧ Hid ((l.take k).contains v = false) ∧ wr = w) (fun i _ => l.length - (intOf i).toNat)
  case atStart => exact ⟨0, by omega, rfl, rfl, rfl⟩
  case round =>
    obtain ⟨k, hk, rfl, hno, rfl⟩ := hrel
    by_cases hlt : k < l.length
    · obtain ⟨p, hp⟩ : ∃ p, l[k]? = some p := ⟨_, List.getElem?_eq_getElem hlt⟩
      obtain ⟨ad, rfl, _, hc⟩ := h'.out.look (k := k) (u := pv p) (by rw [List.getElem?_map, hp]; rfl)
      have t : (k : Int) < (l.length : Int) := by omega
      have t0 : 0 ≤ (k : Int) := by omega
      have hp' := Lib.hid hp
      unfold pv at hc
      clear hp
      by_cases hpv : v = p
      · have tv : ((v : Int) == (p : Int)) = true := by rw [beq_iff_eq]; omega
        have hcon : Hid (l.contains v = true) := by
          show _ = _
          rw [List.contains_iff_mem, hpv]
          exact List.mem_of_getElem? hp'.out
        clear hpv
        go_wp2_with fail
        go_ret
        refine ⟨⟨(k : Int), rfl, ?_⟩, rfl⟩
        show decide (0 ≤ (k : Int)) = l.contains v
        rw [hcon.out]
        exact decide_eq_true (by omega)
      · have tv : ((v : Int) == (p : Int)) = false := by rw [beq_eq_false_iff_ne]; omega
        have hnn : Hid ((l.take (k + 1)).contains v = false) := by
          have h1 := hno.out
          show _ = _
          rw [List.take_add_one, hp'.out]
          simp only [List.contains_eq_mem, List.mem_append, decide_eq_false_iff_not] at h1 ⊢
          simp [hpv]
          simpa using h1
        clear hpv
        go_wp2_with fail
        go_roundw
        case rel => exact ⟨k + 1, by omega, by go_num, hnn, trivial⟩
        case measure => simp [intOf]; omega
    · have t : ¬ (k : Int) < (l.length : Int) := by omega
      have hfin : Hid (l.contains v = false) := by
        have := hno.out
        rw [List.take_of_length_le (by omega)] at this
        exact this
      go_wp2_with fail
      go_ret
      exact ⟨⟨-1, rfl, by show decide (0 ≤ (-1 : Int)) = l.contains v; rw [hfin.out]; exact decide_eq_false (by decide)⟩, rfl⟩
set_option maxRecDepth 100000 in
theorem containsI_any {B : Nat} (l : List Nat) (v : Nat) (A : Option Addr) (c : Nat) (w : World) (h : Rds w B A (l.map pv)) (hl : l.length ≤ 1000000) :
    Calls Tryd.prog 79 #[.slice A l.length c, .int .i64 v] w fun e w' => e = .returned (.bool (hasB l v)) ∧ w' = w := by
  have H := Lib.hid (indexI_any l v A c w h hl)
  clear h
  go_enter Tryd.func79, Tryd.ntmps79
  go_wp2_with fail
  refine H.out.mono ?_
  rintro e w' ⟨⟨z, rfl, hz⟩, rfl⟩
  have hz' := Lib.hid hz
  clear hz
  go_wp2_with fail
  go_ret
  exact ⟨by rw [← hz'.out]; rfl, rfl⟩
end Go.Proofs.YtfbdhcpclccikaaDoor
