/-
  Contracts of stage 6: the program's right. Contracts of stage 6: the reference's Line. Contracts of stage 6: the reference's Interpolate. Contracts of stage 6: the reference's Through.
-/
import Derived.Test.YtbilfhipmebmlaaDoorPjl
namespace Go.Proofs.YtbilfhipmebmlaaDoor
set_option linter.unusedVariables false
set_option linter.unusedSimpArgs false
open Go.RowKit

theorem size_b6 : (Tryd.prog.info? 4).map (·.size) = some 1 := by kernel_rfl
theorem size_b256 : (Tryd.prog.info? 127).map (·.size) = some 256 := by kernel_rfl
theorem zero_b256 : Tryd.zeroCells127 = ((List.replicate 256 false).map Value.bool).toArray := by kernel_rfl
theorem one_b6 (b : Bool) : ∀ u ∈ (Value.bool b).cells.toList, u.oneCell' = true := by
  intro u hu
  simp only [Value.cells, List.mem_singleton] at hu
  subst hu; rfl
theorem one_b256 : ∀ u ∈ (Value.agg ((List.replicate 256 false).map Value.bool).toArray).cells.toList, u.oneCell' = true := by
  intro u hu
  simp only [Value.cells, List.mem_map] at hu
  obtain ⟨b, _, rfl⟩ := hu
  rfl
/-- The elements that have come. -/
def SeenB (a : List UInt8) (k : Nat) (S : List Bool) : Prop := S.length = 256 ∧ ∀ x : UInt8, S[x.toNat]? = some (true) ↔ ∃ i, i < k ∧ co a i = x
theorem seenB_zero (a : List UInt8) : SeenB a 0 (List.replicate 256 false) := ⟨List.length_replicate, fun x => by
  rw [List.getElem?_replicate]
  have := UInt8.toNat_lt x
  rw [if_pos (by omega)]
  constructor
  · intro h; cases h
  · rintro ⟨i, hi, _⟩; omega⟩
theorem seenB_next {a : List UInt8} {k : Nat} {S : List Bool} (h : SeenB a k S) : SeenB a (k + 1) (S.set (co a k).toNat true) := ⟨by rw [List.length_set]; exact h.1, fun x => by
  have hx := UInt8.toNat_lt (co a k)
  rw [List.getElem?_set]
  by_cases hxa : (co a k).toNat = x.toNat
  · rw [if_pos hxa, if_pos (by rw [h.1]; omega)]
    exact ⟨fun _ => ⟨k, by omega, UInt8.toNat_inj.1 hxa⟩, fun _ => rfl⟩
  · rw [if_neg hxa, h.2 x]
    constructor
    · rintro ⟨i, hi, e⟩; exact ⟨i, by omega, e⟩
    · rintro ⟨i, hi, e⟩
      by_cases hik : i = k
      · subst hik; exact absurd (congrArg UInt8.toNat e) hxa
      · exact ⟨i, by omega, e⟩⟩

/-- What right ends with. -/
def RightE (w : World) (D : Prop) (e : Ending) (w' : World) : Prop := ∃ b, e = .returned (.bool b) ∧ (b = true ↔ D) ∧ Below w.heap.size w w'

set_option maxRecDepth 100000 in
set_option maxHeartbeats 2000000 in
theorem right_any {B : Nat} (a : List UInt8) (A A' : Option Addr) (c n' c' : Nat) (w : World) (h : Rds w B A (a.map bv)) (hB : B ≤ w.heap.size) (hl : a.length ≤ 100000) (hl' : n' ≤ 100000) :
    Calls Tryd.prog 69 #[.slice A a.length c, .slice A' n' c'] w (RightE w (Dist a a.length ∧ a.length = n')) := by
  have ha := Lib.hid h
  have hBs := Lib.hid hB
  obtain ⟨n, hn0⟩ : ∃ n, n = a.length := ⟨_, rfl⟩
  have hn := Lib.hid hn0
  rw [← hn0] at hl ⊢
  obtain ⟨D, hD0⟩ : ∃ D : Prop, (Dist a n ∧ n = n') = D := ⟨_, rfl⟩
  rw [hD0]
  have hD : Hid (D ↔ Dist a n ∧ n = n') := by show D ↔ _; rw [← hD0]
  have hZ : Hid (Blk (w.alloc (.cells Tryd.zeroCells127 127)) w.heap.size ((List.replicate 256 false).map Value.bool) 127) := by
    show Blk _ _ _ _
    rw [zero_b256]
    exact Blk.new _ _ _
  have hN1 : Hid (Below w.heap.size w (w.alloc (.cells Tryd.zeroCells127 127))) := (Below.refl _ _).alloc (Nat.le_refl _) _
  clear h hB hn0 hD0
  go_enter Tryd.func69, Tryd.ntmps69
  go_wp2_with (refine wpList_blk_store rfl 127 _ _ rfl 0 (.agg ((List.replicate 256 false).map Value.bool).toArray) rfl (by first | rfl | (show Value.agg _ = _; rw [zero_b256])) hZ.out (by simpa [Value.cells] using size_b256) (by simp [Value.cells]) one_b256 ?_; intro w2 hw2 ho2)
  have hK2 : Hid (Blk w2 w.heap.size ((List.replicate 256 false).map Value.bool) 127) := by
    have := hw2.out
    rw [splice_all _ _ (by simp [Value.cells])] at this
    exact this
  have hB2 := Lib.hid (hN1.out.trans (ho2.below (Nat.le_refl _)))
  clear hw2 ho2
  go_wp2_with fail
  go_loopw [11] (fun v wr => ∃ (k : Nat) (S : List Bool), k ≤ n ∧ v = .int .i64 k ∧ Hid (SeenB a k S ∧ Dist a k) ∧ Hid (Blk wr w.heap.size (S.map Value.bool) 127) ∧ Hid (Below w.heap.size w wr)) (fun v _ => n - (intOf v).toNat)
  case atStart => exact ⟨0, _, by omega, rfl, ⟨seenB_zero a, fun i k h1 h2 => by omega⟩, hK2, hB2⟩
  case round =>
    obtain ⟨k, S, hk, rfl, hS, hK', hBw⟩ := hrel
    by_cases hlt : k < n
    · have t : (k : Int) < (n : Int) := by omega
      have t0 : 0 ≤ (k : Int) := by omega
      have hx := at_co (p := a) (k := k) (by rw [← hn.out]; exact hlt)
      obtain ⟨ad, rfl, _, hca⟩ := (ha.out.below (hBw.out.mono hBs.out)).look (k := k) (u := bv (co a k)) (by rw [List.getElem?_map, hx]; rfl)
      have hnxt := seenB_next hS.out.1
      have hsee := hS.out.1.2 (co a k)
      have hx1 : Hid (∀ i, i < k → co a i = co a k → ¬ Dist a n) := fun i hi e hd => hd k i hi hlt e.symm
      have hx2 : Hid ((¬ ∃ i, i < k ∧ co a i = co a k) → Dist a (k + 1)) := fun hno i j h1 h2 => by
        by_cases hik : i = k
        · subst hik; intro e; exact hno ⟨j, h1, e.symm⟩
        · exact hS.out.2 i j h1 (by omega)
      have hxl := UInt8.toNat_lt (co a k)
      generalize co a k = x at *
      obtain ⟨p, hp⟩ : ∃ p, p = x.toNat := ⟨_, rfl⟩
      rw [← hp] at hxl hsee hnxt
      obtain ⟨b, hb⟩ : ∃ b, S[p]? = some b := ⟨_, List.getElem?_eq_getElem (by rw [hS.out.1.1]; omega)⟩
      have hcb := hK'.out.cell (j := p) (v := .bool b) (by rw [List.getElem?_map, hb]; rfl)
      rw [hb] at hsee
      unfold bv at hca
      rw [← hp] at hca
      have tp : (p : Int) < 256 := by omega
      have tp0 : 0 ≤ (p : Int) := by omega
      have hfit : Hid (p + 1 ≤ (S.map Value.bool).length) := by show _ ≤ _; rw [List.length_map, hS.out.1.1]; omega
      have hpp := Lib.hid hp
      have hseeH := Lib.hid hsee
      have hnxtH := Lib.hid hnxt
      clear hx hb hp hsee hnxt
      cases b with
      | true =>
        have hf : Hid (¬ D) := fun hd => by
          obtain ⟨i, hi, e⟩ := hseeH.out.1 rfl
          exact hx1.out i hi e (hD.out.1 hd).1
        clear hseeH hx1 hx2
        go_wp2_with fail
        go_ret
        exact ⟨false, by first | rfl | (go_simp; done) | (go_simp; rfl), ⟨fun h => (by cases h), fun h => absurd h hf.out⟩, hBw.out⟩
      | false =>
        have hdk := Lib.hid (hx2.out (fun h => by have := hseeH.out.2 h; cases this))
        clear hseeH hx1 hx2
        go_wp2_with (refine wpList_blk_store rfl 4 _ _ rfl p (.bool true) rfl rfl hK'.out size_b6 hfit.out (one_b6 true) ?_; intro w7 hw7 ho7)
        have hK7 : Hid (Blk w7 w.heap.size ((S.set p true).map Value.bool) 127) := by
          have hh := hw7.out
          rw [show (Value.bool true).cells.toList = [Value.bool true] from rfl, splice_set _ _ _ hfit.out, ← List.map_set] at hh
          exact hh
        have hB7 := Lib.hid (hBw.out.trans (ho7.below (Nat.le_refl _)))
        clear hw7 ho7
        go_wp2_with fail
        go_roundw
        case rel => exact ⟨k + 1, S.set p true, by omega, by go_num, ⟨hnxtH.out, hdk.out⟩, hK7, hB7⟩
        case measure => simp [intOf]; omega
    · have t : ¬ (k : Int) < (n : Int) := by omega
      have hkn : k = n := by omega
      have hr : Hid (Dist a n) := by have := hS.out.2; rw [hkn] at this; exact this
      by_cases hnn : n = n'
      · have te : ((n : Int) == (n' : Int)) = true := by simp [hnn]
        go_wp2_with fail
        go_ret
        exact ⟨true, by first | rfl | (go_simp; done) | (go_simp; rfl), ⟨fun _ => hD.out.2 ⟨hr.out, hnn⟩, fun _ => rfl⟩, hBw.out⟩
      · have te : ((n : Int) == (n' : Int)) = false := by
          simp only [beq_eq_false_iff_ne, ne_eq]; omega
        go_wp2_with fail
        go_ret
        exact ⟨false, by first | rfl | (go_simp; done) | (go_simp; rfl), ⟨fun h => (by cases h), fun h => absurd (hD.out.1 h).2 hnn⟩, hBw.out⟩
end Go.Proofs.YtbilfhipmebmlaaDoor

namespace Go.Proofs.YtbilfhipmebmlaaDoor
set_option linter.unusedVariables false
set_option linter.unusedSimpArgs false
open Go.RowKit

theorem ownB_kp {w w' : World} {base : Nat} {v : Value} {l : List UInt8} (h : OwnB w base v l) (hb : Below w.heap.size w w') : OwnB w' base v l := by
  obtain ⟨h1, h2⟩ := h
  refine ⟨h1, ?_⟩
  rcases h2 with h2 | ⟨g, cap, cur, e1, e2, e3, e4⟩
  · exact .inl h2
  · exact .inr ⟨g, cap, cur, e1, e2, (hb.block g (Array.getElem?_eq_some_iff.1 e3).1).trans e3, e4⟩
theorem xor_ne {a b : UInt8} (h : a ≠ b) : a ^^^ b ≠ 0 := by
  intro e
  apply h
  have : a ^^^ b ^^^ b = 0 ^^^ b := by rw [e]
  rwa [UInt8.xor_assoc, UInt8.xor_self, UInt8.xor_zero, UInt8.zero_xor] at this
/-- The k-th term, when i factors have come. -/
def lterm (xs ys : List UInt8) (k : Nat) : Nat → List UInt8
  | 0 => [co ys k]
  | i + 1 => if i = k then lterm xs ys k i else trim (pmul (lterm xs ys k i) [Gf.mul (co xs i) (Gf.inv (co xs k ^^^ co xs i)), Gf.inv (co xs k ^^^ co xs i)])
/-- The sum of the first k terms. -/
def lineK (xs ys : List UInt8) (n : Nat) : Nat → List UInt8
  | 0 => []
  | k + 1 => trim (Gf.vsum (lineK xs ys n k) (lterm xs ys k n))
theorem lterm_len (xs ys : List UInt8) (k : Nat) : ∀ i, (lterm xs ys k i).length ≤ 2 * i + 1 := by
  intro i
  induction i with
  | zero => simp [lterm]
  | succ i ih =>
    rw [lterm]
    split
    · omega
    · have h1 := dg_le (pmul (lterm xs ys k i) [Gf.mul (co xs i) (Gf.inv (co xs k ^^^ co xs i)), Gf.inv (co xs k ^^^ co xs i)])
      rw [pmul_len] at h1
      simp only [List.length_cons, List.length_nil] at h1
      rw [trim_len]
      omega
theorem lineK_len (xs ys : List UInt8) (n : Nat) : ∀ k, (lineK xs ys n k).length ≤ 2 * n + 1 := by
  intro k
  induction k with
  | zero => simp [lineK]
  | succ k ih =>
    have h1 := dg_le (Gf.vsum (lineK xs ys n k) (lterm xs ys k n))
    rw [Gf.vsum_len] at h1
    have h2 := lterm_len xs ys k n
    rw [lineK, trim_len]
    omega

set_option maxRecDepth 100000 in
set_option maxHeartbeats 4000000 in
theorem refLine_any {B : Nat} (xs ys : List UInt8) (A A' : Option Addr) (c c' n ny : Nat) (w : World) (h : Rds w B A (xs.map bv)) (h' : Rds w B A' (ys.map bv)) (hB : B ≤ w.heap.size) (hn : n = xs.length) (hny : ny = ys.length) (hxy : n ≤ ny) (hl : n ≤ 1000) (hd : Dist xs n) :
    Calls Tryd.prog 71 #[.slice A n c, .slice A' ny c'] w fun e w' => ∃ v, e = .returned v ∧ OwnB w' w.heap.size v (lineK xs ys n n) ∧ Below w.heap.size w w' := by
  have hX := Lib.hid h
  have hY := Lib.hid h'
  have hBs := Lib.hid hB
  have hn' := Lib.hid hn
  have hny' := Lib.hid hny
  have hd' := Lib.hid hd
  clear h h' hB hn hny hd
  go_enter Tryd.func71, Tryd.ntmps71
  go_wp2_with fail
  go_loopw [5, 6] (fun v u wr => ∃ k : Nat, k ≤ n ∧ u = .int .i64 k ∧ Hid (OwnB wr w.heap.size v (lineK xs ys n k)) ∧ Hid (Below w.heap.size w wr)) (fun _ u _ => n - (intOf u).toNat)
  case atStart => exact ⟨0, by omega, rfl, ownB_nil _ _, Below.refl _ _⟩
  case round =>
    obtain ⟨k, hk, rfl, ho, hbw⟩ := hrel
    obtain ⟨wo, hwo⟩ : ∃ x, x = wr := ⟨_, rfl⟩
    subst hwo
    by_cases hlt : k < n
    · have t : (k : Int) < (n : Int) := by omega
      have ty : (k : Int) < (ny : Int) := by omega
      have t0 : 0 ≤ (k : Int) := by omega
      have hy := at_co (p := ys) (k := k) (by rw [← hny'.out]; omega)
      obtain ⟨bd, rfl, _, hcb⟩ := (hY.out.below (hbw.out.mono hBs.out)).look (k := k) (u := bv (co ys k)) (by rw [List.getElem?_map, hy]; rfl)
      obtain ⟨y, hy0⟩ : ∃ y, y = co ys k := ⟨_, rfl⟩
      rw [← hy0] at hcb
      have hb1 : Hid (Below wo.heap.size wo (wo.alloc (.cells #[.int .u8 (y.toNat : Int)] 5))) := (Below.refl _ _).alloc (Nat.le_refl _) _
      have ho1 : Hid (OwnB (wo.alloc (.cells #[.int .u8 (y.toNat : Int)] 5)) wo.heap.size (.slice (some ⟨wo.heap.size, 0, none⟩) 1 1) (lterm xs ys k 0)) := by
        show OwnB _ _ _ _
        rw [lterm, ← hy0]
        exact own_blk (X := [y]) (Blk.new wo ([y].map bv) 5) (Nat.le_refl _) rfl (by unfold maxLen; simp)
      unfold bv at hcb
      clear hy hy0
      go_wp2_with fail
      clear hcb
      go_loopw [7, 8] (fun v u wr => ∃ i : Nat, i ≤ n ∧ u = .int .i64 i ∧ Hid (OwnB wr wo.heap.size v (lterm xs ys k i)) ∧ Hid (Below wo.heap.size wo wr)) (fun _ u _ => n - (intOf u).toNat)
      case atStart => exact ⟨0, by omega, rfl, ho1, hb1⟩
      case round =>
        clear ho1 hb1
        obtain ⟨i, hi, rfl, hoi, hbi⟩ := hrel
        by_cases hlti : i < n
        · have ti : (i : Int) < (n : Int) := by omega
          have ti0 : 0 ≤ (i : Int) := by omega
          by_cases hik : i = k
          · have te : ((i : Int) != (k : Int)) = false := by simp [hik]
            have hsk : Hid (lterm xs ys k (i + 1) = lterm xs ys k i) := by show _ = _; rw [lterm, if_pos hik]
            clear hik
            go_wp2_with fail
            go_roundw
            case rel => exact ⟨i + 1, by omega, by go_num, by show OwnB _ _ _ _; rw [hsk.out]; exact hoi.out, hbi⟩
            case measure => simp [intOf]; omega
          · have te : ((i : Int) != (k : Int)) = true := by simp only [bne_iff_ne, ne_eq]; omega
            have hbwi := Lib.hid (hbw.out.trans (hbi.out.mono hbw.out.size))
            have hx1 := at_co (p := xs) (k := k) (by rw [← hn'.out]; exact hlt)
            have hx2 := at_co (p := xs) (k := i) (by rw [← hn'.out]; exact hlti)
            obtain ⟨ad, rfl, _, hca⟩ := (hX.out.below (hbwi.out.mono hBs.out)).look (k := k) (u := bv (co xs k)) (by rw [List.getElem?_map, hx1]; rfl)
            obtain ⟨ad2, e, _, hci⟩ := (hX.out.below (hbwi.out.mono hBs.out)).look (k := i) (u := bv (co xs i)) (by rw [List.getElem?_map, hx2]; rfl)
            cases e
            have hst : Hid (lterm xs ys k (i + 1) = trim (pmul (lterm xs ys k i) [Gf.mul (co xs i) (Gf.inv (co xs k ^^^ co xs i)), Gf.inv (co xs k ^^^ co xs i)])) := by show _ = _; rw [lterm, if_neg hik]
            have hne : co xs k ≠ co xs i := by
              rcases Nat.lt_trichotomy i k with h1 | h1 | h1
              · exact hd'.out k i h1 hlt
              · exact absurd h1 hik
              · exact (hd'.out i k h1 hlti).symm
            have hxx := u8_xor_bv (co xs k) (co xs i)
            have hne2 := Lib.hid (xor_ne hne)
            have hlen := lterm_len xs ys k i
            generalize co xs k = a at *
            generalize co xs i = b at *
            obtain ⟨Av, cv, rfl, _, _, _, _⟩ := own_form hoi.out
            have hrv : Hid (Rds wr wr.heap.size Av ((lterm xs ys k i).map bv)) := Rds.own hoi.out
            generalize lterm xs ys k i = V at *
            have INV : Hid (∀ W, Calls Tryd.prog 68 #[.int .u8 ((a ^^^ b).toNat : Int)] W fun e w' => e = .returned (bv (Gf.inv (a ^^^ b))) ∧ W = w') := fun W => refInv_any (a ^^^ b) W hne2.out
            generalize a ^^^ b = ab at *
            generalize Gf.inv ab = q at *
            have MUL := Lib.hid (fun W => refMul_any b q W)
            generalize Gf.mul b q = m at *
            have PR : Hid (∀ W g, Below wr.heap.size wr W → Blk W g ([m, q].map bv) 5 → Calls Tryd.prog 28 #[.slice Av V.length cv, .slice (some ⟨g, 0, none⟩) 2 2] W fun e w' => ∃ v, e = .returned v ∧ OwnB w' W.heap.size v (trim (pmul V [m, q])) ∧ Below W.heap.size W w') := fun W g hW hK =>
              refProduct6_any (B := W.heap.size) V [m, q] Av (some ⟨g, 0, none⟩) cv 2 W ((hrv.out.below hW).more hW.size) (by have := hK.rds 0 2; simpa using this) (Nat.le_refl _) (by omega) (by simp)
            have hb3 : Hid (∀ nq, Below wr.heap.size wr ((wr.drewN nq).alloc (.cells #[.int .u8 (m.toNat : Int), .int .u8 (q.toNat : Int)] 5))) := fun nq => (below_dN (Below.refl _ wr) nq).alloc (Nat.le_refl _) _
            have hk3 : Hid (∀ nq, Blk ((wr.drewN nq).alloc (.cells #[.int .u8 (m.toNat : Int), .int .u8 (q.toNat : Int)] 5)) wr.heap.size ([m, q].map bv) 5) := fun nq => Blk.new (wr.drewN nq) ([m, q].map bv) 5
            unfold bv at hca hci INV MUL
            generalize V.length = nv at *
            clear hx1 hx2 hne hik hrv
            go_wp2_with fail
            go_quiet (refine Calls.quiet_of_same ((INV.out _).mono fun e w' hh => ⟨hh.1, hh.2.symm⟩))
            go_wp2_with fail
            refine (MUL.out _).mono ?_
            rintro e w2 ⟨rfl, rfl⟩
            go_wp2_with fail
            refine (PR.out _ wr.heap.size (hb3.out _) (hk3.out _)).mono ?_
            rintro e w3 ⟨v3, rfl, ho3, hb33⟩
            have hs3 := (hb3.out nq).size
            have hb4 := Lib.hid (hbi.out.trans (((hb3.out nq).trans (hb33.mono hs3)).mono hbi.out.size))
            have ho4 : Hid (OwnB w3 wo.heap.size v3 (lterm xs ys k (i + 1))) := by
              show OwnB _ _ _ _
              rw [hst.out]
              exact ownB_low ho3 (Nat.le_trans hbi.out.size hs3)
            clear ho3 hb33 hs3
            go_wp2_with fail
            go_roundw
            case rel => exact ⟨i + 1, by omega, by go_num, ho4, hb4⟩
            case measure => simp [intOf]; omega
        · have ti : ¬ (i : Int) < (n : Int) := by omega
          have hin : i = n := by omega
          have hoK := Lib.hid (ownB_kp ho.out hbi.out)
          have hbK := Lib.hid (hbw.out.trans (hbi.out.mono hbw.out.size))
          have hl1 := lineK_len xs ys n k
          have hl2 := lterm_len xs ys k i
          obtain ⟨A5, c5, rfl, _, _, _, hr5⟩ := own_form hoK.out
          obtain ⟨A7, c7, rfl, _, _, _, hr7⟩ := own_form hoi.out
          have AD := Lib.hid (refAdd_any (lineK xs ys n k) (lterm xs ys k i) A5 A7 c5 c7 wr hr5 hr7 (Nat.le_refl _) (by omega) (by omega))
          have hnx : Hid (lineK xs ys n (k + 1) = trim (Gf.vsum (lineK xs ys n k) (lterm xs ys k i))) := by show _ = _; rw [lineK, hin]
          generalize (lineK xs ys n k).length = q5 at *
          generalize (lterm xs ys k i).length = q7 at *
          clear hr5 hr7
          go_wp2_with fail
          refine AD.out.mono ?_
          rintro e w3 ⟨v3, rfl, ho3, hb3⟩
          have ho4 : Hid (OwnB w3 w.heap.size v3 (lineK xs ys n (k + 1))) := by
            show OwnB _ _ _ _
            rw [hnx.out]
            exact ownB_low ho3 hbK.out.size
          have hb4 := Lib.hid (hbK.out.trans (hb3.mono hbK.out.size))
          clear ho3 hb3
          go_wp2_with fail
          go_roundw
          case rel => exact ⟨k + 1, by omega, by go_num, ho4, hb4⟩
          case measure => simp [intOf]; omega
    · have t : ¬ (k : Int) < (n : Int) := by omega
      obtain rfl : k = n := by omega
      go_wp2_with fail
      go_ret
      exact ⟨_, by first | rfl | (go_simp; done) | (go_simp; rfl), ho.out, hbw.out⟩
end Go.Proofs.YtbilfhipmebmlaaDoor

namespace Go.Proofs.YtbilfhipmebmlaaDoor
set_option linter.unusedVariables false
set_option linter.unusedSimpArgs false
open Go.RowKit

theorem size_made6 : (Tryd.prog.info? 39).map (·.size) = some 2 := by kernel_rfl
theorem row_made6 : ∃ d, Tryd.prog.underlying 39 = some d ∧ d.isRow = true := ⟨_, Tryd.underlying39, rfl⟩
theorem made_one6 (A : Option Addr) (n c : Nat) (z : Int) : ∀ u ∈ [Value.slice A n c, Value.int .i64 z], u.oneCell' = true := by
  intro u hu
  simp only [List.mem_cons, List.not_mem_nil, or_false] at hu
  rcases hu with rfl | rfl <;> rfl
theorem ownB_only {w w' : World} {base k : Nat} {v : Value} {l : List UInt8} (h : OwnB w base v l) (ho : Only k w w') (hk : k < base) : OwnB w' base v l := by
  obtain ⟨h1, h2⟩ := h
  refine ⟨h1, ?_⟩
  rcases h2 with h2 | ⟨g, cap, cur, e1, e2, e3, e4⟩
  · exact .inl h2
  · exact .inr ⟨g, cap, cur, e1, e2, (ho.block g (by omega)).trans e3, e4⟩
/-- A polynomial, or an error. -/
def Made6 (w : World) (P : List UInt8) (E : Int) (e : Ending) (w' : World) : Prop :=
  (∃ A c, e = .returned (.agg #[.slice A P.length c, .int .i64 E]) ∧ OwnB w' (w.heap.size + 1) (.slice A P.length c) P) ∧ Below w.heap.size w w'
/-- What Interpolate ends with. -/
def IntEnd (w : World) (xs ys : List UInt8) (n ny : Nat) (e : Ending) (w' : World) : Prop :=
  ((Dist xs n ∧ n = ny) ∧ Made6 w (lineK xs ys n n) 0 e w') ∨ (¬ (Dist xs n ∧ n = ny) ∧ Made6 w [] 1 e w')

set_option maxRecDepth 100000 in
set_option maxHeartbeats 2000000 in
theorem refInterpolate_any {B : Nat} (xs ys : List UInt8) (A A' : Option Addr) (c c' n ny : Nat) (w : World) (h : Rds w B A (xs.map bv)) (h' : Rds w B A' (ys.map bv)) (hB : B ≤ w.heap.size) (hn : n = xs.length) (hny : ny = ys.length) (hl : n ≤ 1000) (hl' : ny ≤ 1000) :
    Calls Tryd.prog 30 #[.slice A n c, .slice A' ny c'] w (IntEnd w xs ys n ny) := by
  obtain ⟨dd, hdu, hdr⟩ := row_made6
  have hdu' := Lib.hid hdu
  obtain ⟨W1, hW1⟩ : ∃ W1, W1 = w.alloc (.cells #[.slice none 0 0, .int .i64 0] 39) := ⟨_, rfl⟩
  have hB1 : Hid (Below w.heap.size w W1) := by show Below _ _ _; rw [hW1]; exact (Below.refl _ _).alloc (Nat.le_refl _) _
  have hR1 : Hid (Blk W1 w.heap.size [.slice none 0 0, .int .i64 0] 39) := by show Blk _ _ _ _; rw [hW1]; exact Blk.new _ [_, _] _
  have hs1 : Hid (W1.heap.size = w.heap.size + 1) := by show _ = _; rw [hW1]; simp
  have hW1' := Lib.hid hW1
  have hX1 : Hid (Rds W1 B A (xs.map bv)) := h.below (hB1.out.mono hB)
  have hY1 : Hid (Rds W1 B A' (ys.map bv)) := h'.below (hB1.out.mono hB)
  have RT := Lib.hid (refRight_any xs A A' c ny c' W1 hX1.out (by omega) (by omega))
  rw [← hn] at RT
  have LN : Hid (∀ W, Below W1.heap.size W1 W → Dist xs n → n ≤ ny → Calls Tryd.prog 71 #[.slice A n c, .slice A' ny c'] W fun e w' => ∃ v, e = .returned v ∧ OwnB w' W.heap.size v (lineK xs ys n n) ∧ Below W.heap.size W w') := fun W hW hd hle =>
    refLine_any xs ys A A' c c' n ny W (hX1.out.below (hW.mono (by rw [hs1.out]; omega))) (hY1.out.below (hW.mono (by rw [hs1.out]; omega))) (by have := hW.size; rw [hs1.out] at this; omega) hn hny hle hl hd
  clear hdu hW1 h h' hB hn hny
  go_enter Tryd.func30, Tryd.ntmps30
  go_wp2_with fail
  generalize hg : w.alloc _ = Wg
  have hgW : W1 = Wg := by rw [← hg, hW1'.out]
  clear hg hW1'
  subst hgW
  refine RT.out.mono ?_
  rintro e w2 ⟨b, rfl, hbD, n2, rfl⟩
  have hbD' := Lib.hid hbD
  have hB2 : Hid (Below W1.heap.size W1 (W1.drewN n2)) := below_dN (Below.refl _ _) n2
  have hR2 : Hid (Blk (W1.drewN n2) w.heap.size [.slice none 0 0, .int .i64 0] 39) := hR1.out
  have hs2 : Hid ((W1.drewN n2).heap.size = w.heap.size + 1) := hs1.out
  have hBw2 : Hid (Below w.heap.size w (W1.drewN n2)) := below_dN hB1.out n2
  clear hbD RT hR1 hX1 hY1 hB1
  cases b with
  | false =>
    have hno : Hid (¬ (Dist xs n ∧ n = ny)) := fun hd => by have := hbD'.out.2 hd; cases this
    clear hbD' LN
    generalize W1.drewN n2 = w2 at *
    go_wp2_with (refine wpList_row_store rfl 39 _ _ rfl [.slice none 0 0, .int .i64 1] rfl rfl hR2.out size_made6 rfl (made_one6 _ _ _ _) ?_; intro w4 hw4 ho4)
    exact bodyPost_ret (ret_blk rfl _ w4 (g := w.heap.size) rfl hw4.out dd hdu'.out hdr size_made6) rfl (.inr ⟨hno.out, ⟨none, 0, rfl, ownB_nil _ _⟩, hBw2.out.trans (ho4.below (Nat.le_refl _))⟩)
  | true =>
    have hyes := Lib.hid (hbD'.out.1 rfl)
    have LN2 := Lib.hid (LN.out _ hB2.out hyes.out.1 (Nat.le_of_eq hyes.out.2))
    clear hbD' LN
    generalize W1.drewN n2 = w2 at *
    go_wp2_with fail
    refine LN2.out.mono ?_
    rintro e w3 ⟨v3, rfl, ho3, hb3⟩
    have hR3 : Hid (Blk w3 w.heap.size [.slice none 0 0, .int .i64 0] 39) := hR2.out.below hb3 (by rw [hs2.out]; omega)
    have hBw3 := Lib.hid (hBw2.out.trans (hb3.mono (by rw [hs2.out]; omega)))
    have ho3' := Lib.hid (ownB_low ho3 (by rw [hs2.out]; exact Nat.le_refl (w.heap.size + 1)))
    obtain ⟨A3, c3, rfl, _, _, _, _⟩ := own_form ho3
    clear ho3 hb3 LN2
    obtain ⟨q, hq⟩ : ∃ q, q = (lineK xs ys n n).length := ⟨_, rfl⟩
    have hq' := Lib.hid hq
    rw [← hq]
    rw [← hq] at ho3'
    clear hq
    go_wp2_with (refine wpList_row_store rfl 39 _ _ rfl [.slice A3 q c3, .int .i64 0] rfl rfl hR3.out size_made6 rfl (made_one6 _ _ _ _) ?_; intro w4 hw4 ho4)
    exact bodyPost_ret (ret_blk rfl _ w4 (g := w.heap.size) rfl hw4.out dd hdu'.out hdr size_made6) rfl (.inl ⟨hyes.out, ⟨A3, c3, by rw [← hq'.out], by rw [← hq'.out]; exact ownB_only ho3'.out ho4 (by omega)⟩, hBw3.out.trans (ho4.below (Nat.le_refl _))⟩)
end Go.Proofs.YtbilfhipmebmlaaDoor

namespace Go.Proofs.YtbilfhipmebmlaaDoor
set_option linter.unusedVariables false
set_option linter.unusedSimpArgs false
open Go.RowKit

/-- The polynomial through the first d + 1 points. -/
def thr (xs ys : List UInt8) (d : Nat) : List UInt8 := lineK (xs.take (d + 1)) (ys.take (d + 1)) (d + 1) (d + 1)
/-- What Through ends with. -/
def ThrEnd (w : World) (xs ys : List UInt8) (n ny : Nat) (d : Int) (e : Ending) (w' : World) : Prop :=
  (¬ (Dist xs n ∧ n = ny) ∧ Made6 w [] 1 e w') ∨
  ((Dist xs n ∧ n = ny) ∧ (d < 0 ∨ (n : Int) ≤ d) ∧ Made6 w [] 3 e w') ∨
  ((Dist xs n ∧ n = ny) ∧ ∃ m : Nat, d = m ∧ m < n ∧ ((0 < (missL (thr xs ys m) xs ys n).length ∧ Made6 w [] 8 e w') ∨ (missL (thr xs ys m) xs ys n = [] ∧ Made6 w (thr xs ys m) 0 e w')))
theorem dist_take {xs : List UInt8} {n k : Nat} (h : Dist xs n) (hk : k ≤ n) : Dist (xs.take k) k := fun i j h1 h2 => by
  rw [co_take, co_take, if_pos h2, if_pos (by omega)]
  exact h i j h1 (by omega)
theorem thr_len (xs ys : List UInt8) (d : Nat) : (thr xs ys d).length ≤ 2 * (d + 1) + 1 := lineK_len _ _ _ _

set_option maxRecDepth 100000 in
set_option maxHeartbeats 4000000 in
theorem refThrough_any {B : Nat} (xs ys : List UInt8) (A A' : Option Addr) (c c' n ny : Nat) (d : Int) (w : World) (h : Rds w B A (xs.map bv)) (h' : Rds w B A' (ys.map bv)) (hB : B ≤ w.heap.size) (hn : n = xs.length) (hny : ny = ys.length) (hl : n ≤ 1000) (hl' : ny ≤ 1000) (hnc : n ≤ c) (hnc' : ny ≤ c') :
    Calls Tryd.prog 32 #[.slice A n c, .slice A' ny c', .int .i64 d] w (ThrEnd w xs ys n ny d) := by
  obtain ⟨dd, hdu, hdr⟩ := row_made6
  have hdu' := Lib.hid hdu
  obtain ⟨W1, hW1⟩ : ∃ W1, W1 = w.alloc (.cells #[.slice none 0 0, .int .i64 0] 39) := ⟨_, rfl⟩
  have hB1 : Hid (Below w.heap.size w W1) := by show Below _ _ _; rw [hW1]; exact (Below.refl _ _).alloc (Nat.le_refl _) _
  have hR1 : Hid (Blk W1 w.heap.size [.slice none 0 0, .int .i64 0] 39) := by show Blk _ _ _ _; rw [hW1]; exact Blk.new _ [_, _] _
  have hs1 : Hid (W1.heap.size = w.heap.size + 1) := by show _ = _; rw [hW1]; simp
  have hW1' := Lib.hid hW1
  have hX1 : Hid (Rds W1 B A (xs.map bv)) := h.below (hB1.out.mono hB)
  have hY1 : Hid (Rds W1 B A' (ys.map bv)) := h'.below (hB1.out.mono hB)
  have RT := Lib.hid (refRight_any xs A A' c ny c' W1 hX1.out (by omega) (by omega))
  rw [← hn] at RT
  have hle : ∀ W, Below W1.heap.size W1 W → B ≤ W.heap.size := fun W hW => by have := hW.size; rw [hs1.out] at this; omega
  have LN : Hid (∀ W (m : Nat), Below W1.heap.size W1 W → Dist xs n → n = ny → m < n → Calls Tryd.prog 71 #[.slice A (m + 1) c, .slice A' (m + 1) c'] W fun e w' => ∃ v, e = .returned v ∧ OwnB w' W.heap.size v (thr xs ys m) ∧ Below W.heap.size W w') := fun W m hW hd hnn hm =>
    refLine_any (B := B) (xs.take (m + 1)) (ys.take (m + 1)) A A' c c' (m + 1) (m + 1) W (by have := (hX1.out.below (hW.mono (by rw [hs1.out]; omega))).take (m + 1); rwa [← List.map_take] at this) (by have := (hY1.out.below (hW.mono (by rw [hs1.out]; omega))).take (m + 1); rwa [← List.map_take] at this) (hle W hW) (by rw [List.length_take]; omega) (by rw [List.length_take]; omega) (Nat.le_refl _) (by omega) (dist_take hd (by omega))
  have MS : Hid (∀ W (P : List UInt8) (Ap : Option Addr) (cp np : Nat), Below W1.heap.size W1 W → n = ny → Rds W W.heap.size Ap (P.map bv) → np = P.length → np ≤ 100000 → Calls Tryd.prog 39 #[.slice Ap np cp, .slice A n c, .slice A' ny c'] W fun e w' => ∃ v, e = .returned v ∧ OwnP w' W.heap.size v (missL P xs ys n) ∧ Below W.heap.size W w') := fun W P Ap cp np hW hnn hP hnp hlp =>
    refMissed_any (B := W.heap.size) P xs ys Ap A A' cp c c' np n ny W hP ((hX1.out.below (hW.mono (by rw [hs1.out]; omega))).more (hle W hW)) ((hY1.out.below (hW.mono (by rw [hs1.out]; omega))).more (hle W hW)) (Nat.le_refl _) hnp hn hny (by omega) hlp (by omega)
  clear hdu hW1 h h' hB hn hny hle
  go_enter Tryd.func32, Tryd.ntmps32
  go_wp2_with fail
  generalize hg : w.alloc _ = Wg
  have hgW : W1 = Wg := by rw [← hg, hW1'.out]
  clear hg hW1'
  subst hgW
  refine RT.out.mono ?_
  rintro e w2 ⟨b, rfl, hbD, n2, rfl⟩
  have hbD' := Lib.hid hbD
  have hB2 : Hid (Below W1.heap.size W1 (W1.drewN n2)) := below_dN (Below.refl _ _) n2
  have hR2 : Hid (Blk (W1.drewN n2) w.heap.size [.slice none 0 0, .int .i64 0] 39) := hR1.out
  have hs2 : Hid ((W1.drewN n2).heap.size = w.heap.size + 1) := hs1.out
  have hBw2 : Hid (Below w.heap.size w (W1.drewN n2)) := below_dN hB1.out n2
  clear hbD RT hR1 hX1 hY1 hB1
  generalize W1.drewN n2 = w2 at *
  cases b with
  | false =>
    have hno : Hid (¬ (Dist xs n ∧ n = ny)) := fun hd => by have := hbD'.out.2 hd; cases this
    clear hbD' LN MS
    go_wp2_with (refine wpList_row_store rfl 39 _ _ rfl [.slice none 0 0, .int .i64 1] rfl rfl hR2.out size_made6 rfl (made_one6 _ _ _ _) ?_; intro w4 hw4 ho4)
    exact bodyPost_ret (ret_blk rfl _ w4 (g := w.heap.size) rfl hw4.out dd hdu'.out hdr size_made6) rfl (.inl ⟨hno.out, ⟨none, 0, rfl, ownB_nil _ _⟩, hBw2.out.trans (ho4.below (Nat.le_refl _))⟩)
  | true =>
    have hyes := Lib.hid (hbD'.out.1 rfl)
    clear hbD'
    by_cases hneg : d < 0
    · clear LN MS
      go_wp2_with (refine wpList_row_store rfl 39 _ _ rfl [.slice none 0 0, .int .i64 3] rfl rfl hR2.out size_made6 rfl (made_one6 _ _ _ _) ?_; intro w4 hw4 ho4)
      exact bodyPost_ret (ret_blk rfl _ w4 (g := w.heap.size) rfl hw4.out dd hdu'.out hdr size_made6) rfl (.inr (.inl ⟨hyes.out, .inl hneg, ⟨none, 0, rfl, ownB_nil _ _⟩, hBw2.out.trans (ho4.below (Nat.le_refl _))⟩))
    obtain ⟨m, rfl⟩ : ∃ m : Nat, d = m := ⟨d.toNat, by omega⟩
    by_cases hbig : (m : Int) ≥ (n : Int)
    · have hbig' := Lib.hid hbig
      clear LN MS
      go_wp2_with (refine wpList_row_store rfl 39 _ _ rfl [.slice none 0 0, .int .i64 3] rfl rfl hR2.out size_made6 rfl (made_one6 _ _ _ _) ?_; intro w4 hw4 ho4)
      exact bodyPost_ret (ret_blk rfl _ w4 (g := w.heap.size) rfl hw4.out dd hdu'.out hdr size_made6) rfl (.inr (.inl ⟨hyes.out, .inr hbig'.out, ⟨none, 0, rfl, ownB_nil _ _⟩, hBw2.out.trans (ho4.below (Nat.le_refl _))⟩))
    have hmn : m < n := by omega
    have em : (m : Int) + 1 = ((m + 1 : Nat) : Int) := by omega
    have hmc : ((m + 1 : Nat) : Int) ≤ (c : Int) := by omega
    have hmc' : ((m + 1 : Nat) : Int) ≤ (c' : Int) := by have := hyes.out.2; omega
    have LN2 := Lib.hid (LN.out w2.drew m (drewBelowB hB2.out) hyes.out.1 hyes.out.2 hmn)
    clear LN
    obtain ⟨q, hq⟩ : ∃ q, q = m + 1 := ⟨_, rfl⟩
    rw [← hq] at em hmc hmc'
    have hLN3 := LN2.out
    rw [← hq] at hLN3
    have LN3 := Lib.hid hLN3
    have hq1 : q ≤ n := by omega
    have hq0 : 0 ≤ (q : Int) := by omega
    have ew : IntKind.i64.wrap (q : Int) = (q : Int) := by rw [IntKind.wrap_i64]; omega
    clear hLN3 LN2 hq
    go_wp2_with fail
    refine wp_region_planM [] [(true, 0), (true, 1), (true, 2), (true, 3), (true, 4), (true, 5), (true, 6), (true, 7), (false, 8), (true, 9)] (by decide) (by kernel_rfl) (by kernel_rfl) (by decide) (by intro c a d v w h; cases d <;> exact h) ?_
    change wpPlanM _ _ _ _ _ _ w2.drew
    iterate 8 (refine wpPlanM_plain rfl (fun K hK => ?_); go_simp; refine hK _ ?_; clear hK K)
    refine wpPlanM_call rfl (fun K hK => ?_)
    go_wp2_with fail
    refine LN3.out.mono ?_
    rintro e w3 ⟨v3, rfl, ho3, hb3⟩
    go_wp2_with fail
    refine planPostL_normal ⟨.inr hb3, hK _ _ ?_⟩
    clear hK K LN3
    iterate 1 (refine wpPlanM_plain rfl (fun K hK => ?_); go_simp; refine hK _ ?_; clear hK K)
    refine wpPlanM_nil ?_
    have hB3 : Hid (Below W1.heap.size W1 w3) := (drewBelowB hB2.out).trans (hb3.mono (hB2.out.size))
    have hR3 : Hid (Blk w3 w.heap.size [.slice none 0 0, .int .i64 0] 39) := hR2.out.below (w' := w3) ((drewBelowB (Below.refl w2.heap.size w2)).trans hb3) (by rw [hs2.out]; omega)
    have hBw3 := Lib.hid ((drewBelowB hBw2.out).trans (hb3.mono (by show w.heap.size ≤ w2.heap.size; rw [hs2.out]; omega)))
    have ho3' : Hid (OwnB w3 (w.heap.size + 1) v3 (thr xs ys m)) := ownB_low ho3 (by show w.heap.size + 1 ≤ w2.heap.size; rw [hs2.out]; exact Nat.le_refl _)
    clear ho3 hb3
    obtain ⟨A3, c3, rfl, _, _, _, hr3⟩ := own_form ho3'.out
    have hlen := thr_len xs ys m
    have MS2 := Lib.hid (MS.out w3 (thr xs ys m) A3 c3 _ hB3.out hyes.out.2 hr3 rfl (by omega))
    obtain ⟨L, hL⟩ : ∃ L, L = missL (thr xs ys m) xs ys n := ⟨_, rfl⟩
    have hL' := Lib.hid hL
    rw [← hL] at MS2
    obtain ⟨P, hP⟩ : ∃ P, P = thr xs ys m := ⟨_, rfl⟩
    have hP' := Lib.hid hP
    rw [← hP] at MS2 ho3' hlen ⊢
    obtain ⟨np, hnp⟩ : ∃ np, np = P.length := ⟨_, rfl⟩
    have hnp' := Lib.hid hnp
    rw [← hnp] at MS2 ho3' ⊢
    clear hL hP hnp hr3 hlen MS
    go_wp2_with fail
    refine MS2.out.mono ?_
    rintro e w4 ⟨v4, rfl, ho4, hb4⟩
    have hR4 : Hid (Blk w4 w.heap.size [.slice none 0 0, .int .i64 0] 39) := hR3.out.below hb4 hR3.out.lt
    have hBw4 := Lib.hid (hBw3.out.trans (hb4.mono hBw3.out.size))
    have hoP := Lib.hid (ownB_kp ho3'.out hb4)
    obtain ⟨A4, c4, rfl, _, _, _, _⟩ := own_form ho4
    clear ho4 hb4 MS2
    cases hcs : L with
    | nil =>
      have hL0 : Hid (missL (thr xs ys m) xs ys n = []) := by show _ = _; rw [← hL'.out]; exact hcs
      simp only [List.length_nil]
      go_wp2_with (refine wpList_row_store rfl 39 _ _ rfl [.slice A3 np c3, .int .i64 0] rfl rfl hR4.out size_made6 rfl (made_one6 _ _ _ _) ?_; intro w5 hw5 ho5)
      exact bodyPost_ret (ret_blk rfl _ w5 (g := w.heap.size) rfl hw5.out dd hdu'.out hdr size_made6) rfl (.inr (.inr ⟨hyes.out, m, rfl, hmn, .inr ⟨hL0.out, ⟨A3, c3, by rw [← hP'.out, ← hnp'.out], by rw [← hP'.out, ← hnp'.out]; exact ownB_only hoP.out ho5 (by omega)⟩, hBw4.out.trans (ho5.below (Nat.le_refl _))⟩⟩))
    | cons l0 l1 =>
      have hL0 : Hid (0 < (missL (thr xs ys m) xs ys n).length) := by show _ < _; rw [← hL'.out, hcs]; simp
      have hll : 0 < ((l0 :: l1).length : Int) := by simp
      obtain ⟨nl, hnl⟩ : ∃ nl, nl = (l0 :: l1).length := ⟨_, rfl⟩
      rw [← hnl] at hll ⊢
      clear hnl hcs
      go_wp2_with (refine wpList_row_store rfl 39 _ _ rfl [.slice none 0 0, .int .i64 8] rfl rfl hR4.out size_made6 rfl (made_one6 _ _ _ _) ?_; intro w5 hw5 ho5)
      exact bodyPost_ret (ret_blk rfl _ w5 (g := w.heap.size) rfl hw5.out dd hdu'.out hdr size_made6) rfl (.inr (.inr ⟨hyes.out, m, rfl, hmn, .inl ⟨hL0.out, ⟨none, 0, rfl, ownB_nil _ _⟩, hBw4.out.trans (ho5.below (Nat.le_refl _))⟩⟩))
end Go.Proofs.YtbilfhipmebmlaaDoor
