/-
  Contracts of stage 6: the reference's DivMod.
-/
import Derived.Test.YtbilfhipmebmlaaDoorQo
namespace Go.Proofs.YtbilfhipmebmlaaDoor
set_option linter.unusedVariables false
set_option linter.unusedSimpArgs false
open Go.RowKit

theorem size_dvd6 : (Tryd.prog.info? 35).map (·.size) = some 3 := by kernel_rfl
theorem row_dvd6 : ∃ d, Tryd.prog.underlying 35 = some d ∧ d.isRow = true := ⟨_, Tryd.underlying35, rfl⟩
theorem dvd_one6 (A A' : Option Addr) (n c n' c' : Nat) (z : Int) : ∀ u ∈ [Value.slice A n c, Value.slice A' n' c', Value.int .i64 z], u.oneCell' = true := by
  intro u hu
  simp only [List.mem_cons, List.not_mem_nil, or_false] at hu
  rcases hu with rfl | rfl | rfl <;> rfl
theorem ownB_mk (w : World) (base : Nat) (hb : base ≤ w.heap.size) : OwnB (w.alloc (.cells #[] 5)) base (.slice (some ⟨w.heap.size, 0, none⟩) 0 0) [] :=
  World.ownsRow_made w #[] 0 hb (by unfold maxLen; omega) rfl
theorem rowV_of {W : World} {base : Nat} {A : Option Addr} {n c : Nat} {l : List UInt8} (h : OwnB W base (.slice A n c) l) : RowV W A n c l := by
  obtain ⟨A', n', c', e, h'⟩ := rowV_own h
  cases e
  exact h'
/-- Another start, the same end. -/
theorem dvd_same {a b : List UInt8} (hb : 0 < dg b) {k N : Nat} (hk : k ≤ N) (hR : k + (dg b - 1) ≤ a.length) (hd : dg a ≤ k + (dg b - 1)) : trim (dvd b k (List.replicate N 0) a).1 = dq a b ∧ trim (dvd b k (List.replicate N 0) a).2 = dr a b := by
  obtain ⟨h1, h2, _, _⟩ := dvd_spec hb k (List.replicate N 0) a (by rw [List.length_replicate]; exact hk) hR (fun j _ => co_zeros _ _) hd
  obtain ⟨g1, g2⟩ := div_spec a hb
  have := div_uniq (q' := dq a b) (r' := dr a b) hb (fun j => by
    rw [h1 j, g1 j, co_pmul, pc_null _ (fun t _ => .inl (co_zeros _ _)), UInt8.zero_xor]) h2 g2
  refine ⟨?_, ?_⟩
  · rw [← trim_dq]; exact trim_ext this.1
  · rw [show dr a b = trim (dr a b) from (trim_trim _).symm]; exact trim_ext this.2

set_option maxRecDepth 100000 in
set_option maxHeartbeats 8000000 in
theorem refdiv_ok {B : Nat} (a b : List UInt8) (A A' : Option Addr) (ca c' n m : Nat) (w : World) (h : Rds w B A (a.map bv)) (h' : Rds w B A' (b.map bv)) (hB : B ≤ w.heap.size) (hn : n = a.length) (hm : m = b.length) (hla : n ≤ 256) (hlb : m ≤ 256) (hAn : A = none → ca = 0) (hb0 : 0 < dg b) :
    Calls Tryd.prog 27 #[.slice A n ca, .slice A' m c'] w fun e w' => ∃ A1 n1 c1 A2 n2 c2, e = .returned (.agg #[.slice A1 n1 c1, .slice A2 n2 c2, .int .i64 0]) ∧ RowV w' A1 n1 c1 (dq a b) ∧ RowV w' A2 n2 c2 (dr a b) ∧ Below w.heap.size w w' := by
  obtain ⟨dd, hdu, hdr⟩ := row_dvd6
  have hdu' := Lib.hid hdu
  obtain ⟨W1, hW1⟩ : ∃ W1, W1 = w.alloc (.cells #[.slice none 0 0, .slice none 0 0, .int .i64 0] 35) := ⟨_, rfl⟩
  have hB1 : Hid (Below w.heap.size w W1) := by show Below _ _ _; rw [hW1]; exact (Below.refl _ _).alloc (Nat.le_refl _) _
  have hR1 : Hid (Blk W1 w.heap.size [.slice none 0 0, .slice none 0 0, .int .i64 0] 35) := by show Blk _ _ _ _; rw [hW1]; exact Blk.new _ [_, _, _] _
  have hW1' := Lib.hid hW1
  obtain ⟨lb, hlb0⟩ : ∃ k, k = dg b := ⟨_, rfl⟩
  obtain ⟨d, hd0⟩ : ∃ d, lb = d + 1 := ⟨lb - 1, by omega⟩
  have hdgb := dg_le b
  have hDG : Hid (Calls Tryd.prog 19 #[.slice A' m c'] W1 fun e w' => e = .returned (.int .i64 (d : Int)) ∧ w' = W1) := by
    have := refDegree_any b A' c' W1 (h'.below (hB1.out.mono hB)) (by omega)
    rw [← hm, ← hlb0, hd0, show (((d + 1 : Nat) : Int) - 1) = (d : Int) by omega] at this
    exact this
  have hX : Hid (Rds W1 B A (a.map bv)) := h.below (hB1.out.mono hB)
  have hY : Hid (Rds W1 B A' (b.map bv)) := h'.below (hB1.out.mono hB)
  have hB1s : Hid (B ≤ W1.heap.size) := Nat.le_trans hB hB1.out.size
  have hBgq0 : Hid (B ≤ W1.heap.size) := hB1s
  have hbd := at_co (p := b) (k := d) (by omega)
  obtain ⟨bd, rfl, hbb, hcb⟩ := hY.out.look (k := d) (u := bv (co b d)) (by rw [List.getElem?_map, hbd]; rfl)
  have htop : co b d = top b := by unfold top; rw [← hlb0, hd0, Nat.add_sub_cancel]
  rw [htop] at hcb
  have IV := Lib.hid (refInv_any (top b) W1 (top_ne hb0))
  obtain ⟨W2, hW2⟩ : ∃ W2, W2 = W1.alloc (.cells (madeCells #[.int .u8 0] (n + 1)) 5) := ⟨_, rfl⟩
  have hmk := run_make_row' (P := Tryd.prog) 22 5 (.int .u8 0) 1 Tryd.underlying22 infoByte rfl .i64 .i64 (n + 1) (by omega) (by omega) W1
  rw [← hW2] at hmk
  have hB2 : Hid (Below W1.heap.size W1 W2) := by show Below _ _ _; rw [hW2]; exact (Below.refl _ _).alloc (Nat.le_refl _) _
  have hQ2 : Hid (Blk W2 W1.heap.size ((List.replicate (n + 1) (0 : UInt8)).map bv) 5) := by
    show Blk _ _ _ _
    rw [hW2, made_zeros, zeros_row]
    exact Blk.new _ _ _
  obtain ⟨n1, hn1⟩ : ∃ n1, n1 = n + 1 := ⟨_, rfl⟩
  rw [← hn1] at hmk hQ2
  have en1 : (n : Int) + 1 = (n1 : Int) := by omega
  have en1w : IntKind.i64.wrap (n1 : Int) = (n1 : Int) := by rw [IntKind.wrap_i64]; omega
  have hn1l : n1 ≤ 257 := by omega
  have hn1h := Lib.hid hn1
  clear hn1
  have hwr0 : Rds (W2.alloc (.cells #[] 5)) B A (a.map bv) := hX.out.below ((hB2.out.trans ((Below.refl _ _).alloc hB2.out.size _)).mono hB1s.out)
  have hwr := Lib.hid hwr0
  have hO2 := Lib.hid (ownB_mk W2 W2.heap.size (Nat.le_refl _))
  have hAn' := Lib.hid hAn
  have hnl := Lib.hid hn
  have hml := Lib.hid hm
  have hlbh := Lib.hid hlb0
  have hb0h := Lib.hid hb0
  have htoph : Hid (co b d = top b) := htop
  have t1 : ¬ (n : Int) > 256 := by omega
  have t2 : ¬ (m : Int) > 256 := by omega
  have t3 : ¬ (d : Int) < 0 := by omega
  have t4 : (d : Int) < (m : Int) := by omega
  have t40 : 0 ≤ (d : Int) := by omega
  have hdm : d < m := by omega
  obtain ⟨inv, hinv⟩ : ∃ i, i = Gf.inv (top b) := ⟨_, rfl⟩
  rw [← hinv] at IV
  have hinv' := Lib.hid hinv
  have hlbd := Lib.hid hd0
  have hen : IntKind.i64.wrap ((n : Int) - 1) = (n : Int) - 1 := by rw [IntKind.wrap_i64]; omega
  unfold bv at hcb IV
  generalize htb : top b = tb at *
  have htb' := Lib.hid htb
  clear hdu hW1 h h' hB hAn hn hm hlb0 hwr0 hW2 hinv hbd htop hdgb hb0 htb hd0
  go_enter Tryd.func27, Tryd.ntmps27
  go_wp2_with fail
  generalize hg : w.alloc _ = Wg
  have hgW : W1 = Wg := by rw [← hg, hW1'.out]
  clear hg hW1'
  subst hgW
  refine hDG.out.mono ?_
  rintro e w2 ⟨rfl, hww⟩
  rw [hww]
  clear hww w2
  clear hDG
  go_wp2_with fail
  refine IV.out.mono ?_
  rintro e w2 ⟨rfl, hww⟩
  rw [← hww]
  clear hww w2
  clear IV hcb
  go_wp2_with (at_builtin; go_must (refine push_bytesH rfl _ _ rfl W2.heap.size _ [] a B A n ca hnl.out hAn'.out rfl rfl hwr.out hO2.out (by have := hnl.out; simp; omega) (by simp) ?_); intro v4 w4 ho4 hb4 _ _)
  have hB4 : Hid (Below W2.heap.size W2 w4) := ((Below.refl _ _).alloc (Nat.le_refl _) _).trans hb4
  have hO4 : Hid (OwnB w4 W2.heap.size v4 a) := by have h := ho4; rw [List.nil_append] at h; exact h
  have hQ4 : Hid (Blk w4 W1.heap.size ((List.replicate n1 (0 : UInt8)).map bv) 5) := hQ2.out.below hB4.out hQ2.out.lt
  have hS4 : Hid (Blk w4 w.heap.size [.slice none 0 0, .slice none 0 0, .int .i64 0] 35) := (hR1.out.below hB2.out hR1.out.lt).below hB4.out (Nat.lt_of_lt_of_le hR1.out.lt hB2.out.size)
  have hBw4 : Hid (Below w.heap.size w w4) := (hB1.out.trans (hB2.out.mono hB1.out.size)).trans (hB4.out.mono (Nat.le_trans hB1.out.size hB2.out.size))
  have hY4 : Hid (Rds w4 B (some bd) (b.map bv)) := hY.out.below ((hB2.out.trans (hB4.out.mono hB2.out.size)).mono hB1s.out)
  have hB4s : Hid (B ≤ w4.heap.size) := Nat.le_trans hB1s.out (Nat.le_trans hB2.out.size hB4.out.size)
  have hgq : Hid (w.heap.size < W1.heap.size ∧ W1.heap.size < W2.heap.size) := ⟨hR1.out.lt, hQ2.out.lt⟩
  obtain ⟨gq, hgq0⟩ : ∃ g, g = W1.heap.size := ⟨_, rfl⟩
  have hBgq := hBgq0
  rw [← hgq0] at hQ4 hgq hBgq ⊢
  obtain ⟨g2, hg20⟩ : ∃ g, g = W2.heap.size := ⟨_, rfl⟩
  rw [← hg20] at hO4 hgq
  clear ho4 hb4 hgq0 hg20 hmk hB1 hB2 hQ2 hR1 hO2 hwr hX hY hB1s hB4
  obtain ⟨Ar, cr, rfl, hlr, hcr, _, hrr⟩ := own_form hO4.out
  have hr0 := Lib.hid hrr
  rw [← hnl.out] at hO4 hlr ⊢
  clear hrr
  by_cases hlt : n < lb
  · have hz : ¬ (n : Int) - 1 ≥ (d : Int) := by have := hlbd.out; omega
    have hq0 : Hid (trim (List.replicate n1 (0 : UInt8)) = dq a b ∧ trim a = dr a b) := by
      have h0 := hb0h.out
      have := dvd_same (a := a) (b := b) h0 (k := 0) (N := n1) (Nat.zero_le _)
      have hda := dg_le a
      have hx := div_uniq (q := []) (r := a) (q' := dq a b) (r' := dr a b) h0 (fun j => by
        rw [(div_spec a h0).1 j, co_pmul, pc_null _ (fun t _ => .inl (co_nil t)), UInt8.zero_xor]) (by rw [← hlbh.out]; have := hnl.out; omega) (div_spec a h0).2
      refine ⟨?_, ?_⟩
      · rw [← trim_dq]; exact trim_ext fun j => by rw [co_zeros, ← hx.1 j, co_nil]
      · rw [show dr a b = trim (dr a b) from (trim_trim _).symm]; exact trim_ext hx.2
    obtain ⟨z, hzz⟩ : ∃ z, z = (n : Int) - 1 := ⟨_, rfl⟩
    rw [← hzz] at hz
    have hzz' := Lib.hid hzz
    rw [← hzz] at hen
    clear hzz hlt
    go_loopw [9] (fun v wr => v = .int .i64 z ∧ wr = w4) (fun v _ => 0)
    case atStart => exact ⟨by first | rfl | (rw [hzz'.out]), rfl⟩
    case round =>
      obtain ⟨rfl, rfl⟩ := hrel
      have TQ : Hid (Calls Tryd.prog 22 #[.slice (some ⟨gq, 0, none⟩) n1 n1] wr fun e w' => ∃ v, e = .returned v ∧ OwnB w' wr.heap.size v (dq a b) ∧ Below wr.heap.size wr w') := by
        have hrd := hQ4.out.rds 0 n1
        rw [List.drop_zero, List.take_of_length_le (by rw [List.length_map, show (List.replicate n1 (0 : UInt8)).length = n1 from List.length_replicate]; exact Nat.le_refl _)] at hrd
        have := refTrim_any (List.replicate n1 (0 : UInt8)) (some ⟨gq, 0, none⟩) n1 wr hrd (Nat.le_refl _) (by rw [show (List.replicate n1 (0 : UInt8)).length = n1 from List.length_replicate]; omega)
        rw [show (List.replicate n1 (0 : UInt8)).length = n1 from List.length_replicate, hq0.out.1] at this
        exact this
      have TR : Hid (∀ V, Below wr.heap.size wr V → Calls Tryd.prog 22 #[.slice Ar n cr] V fun e w' => ∃ v, e = .returned v ∧ OwnB w' V.heap.size v (dr a b) ∧ Below V.heap.size V w') := fun V hV => by
        have := refTrim_any a Ar cr V ((hr0.out).below hV) hV.size (by rw [← hnl.out]; omega)
        rw [← hnl.out, hq0.out.2] at this
        exact this
      go_wp2_with fail
      refine TQ.out.mono ?_
      rintro e w8 ⟨v8, rfl, ho8, hb8⟩
      have TR8 := Lib.hid (TR.out w8 hb8)
      have hS8 := Lib.hid (hS4.out.below hb8 hS4.out.lt)
      have hBw8 := Lib.hid (hBw4.out.trans (hb8.mono hBw4.out.size))
      have hlt8 : Hid (w.heap.size < wr.heap.size) := hS4.out.lt
      have ho8' := Lib.hid ho8
      obtain ⟨A8, n8, c8, rfl, _⟩ := rowV_own ho8
      clear ho8 hb8 TR TQ
      go_wp2_with fail
      refine TR8.out.mono ?_
      rintro e w9 ⟨v9, rfl, ho9, hb9⟩
      have hS9 := Lib.hid (hS8.out.below hb9 hS8.out.lt)
      have hBw9 := Lib.hid (hBw8.out.trans (hb9.mono hBw8.out.size))
      have ho89 := Lib.hid (ownB_kp ho8'.out hb9)
      have hlt9 : Hid (w.heap.size < w8.heap.size) := hS8.out.lt
      have ho9' := Lib.hid ho9
      obtain ⟨A9, n9, c9, rfl, _⟩ := rowV_own ho9
      clear ho9 hb9 TR8 ho8'
      go_wp2_with (refine wpList_row_store rfl 35 _ _ rfl [.slice A8 n8 c8, .slice A9 n9 c9, .int .i64 0] rfl rfl hS9.out size_dvd6 rfl (dvd_one6 _ _ _ _ _ _ _) ?_; intro w10 hw10 ho10)
      exact bodyPost_ret (ret_blk rfl _ w10 (g := w.heap.size) rfl hw10.out dd hdu'.out hdr size_dvd6) rfl ⟨A8, n8, c8, A9, n9, c9, rfl, rowV_of (ownB_only ho89.out ho10 hlt8.out), rowV_of (ownB_only ho9'.out ho10 hlt9.out), hBw9.out.trans (ho10.below (Nat.le_refl _))⟩
  · have hle : lb ≤ n := by omega
    obtain ⟨gr, cap, Z, hve, hgr, hkr, hlz, hcm⟩ := own_open hO4.out (by rw [← hnl.out]; have := hlbd.out; omega)
    rw [← hnl.out] at hlz hve
    injection hve with e1 e2 e3
    subst e1
    subst e3
    have hgr' := Lib.hid hgr
    have hgne : Hid (gr ≠ gq) := fun e => by have := hgq.out.2; have := hgr'.out; omega
    have hkr' := Lib.hid hkr
    obtain ⟨k0, hk0⟩ : ∃ k0, n = d + k0 := ⟨n - d, by have := hlbd.out; omega⟩
    obtain ⟨FF, hFF⟩ : ∃ FF, FF = dvd b k0 (List.replicate n1 (0 : UInt8)) a := ⟨_, rfl⟩
    have hF1 : Hid (trim FF.1 = dq a b ∧ trim FF.2 = dr a b) := by
      rw [hFF]
      exact dvd_same hb0h.out (by have := hn1h.out; omega) (by rw [← hlbh.out, ← hnl.out]; have := hlbd.out; omega) (by have := dg_le a; rw [← hlbh.out]; have := hnl.out; have := hlbd.out; omega)
    have hst : Hid ((List.replicate n1 (0 : UInt8)).length = n1 ∧ a.length = n ∧ dvd b k0 (List.replicate n1 (0 : UInt8)) a = FF) := ⟨by simp, hnl.out.symm, hFF.symm⟩
    have hkn : k0 ≤ n1 := by have := hn1h.out; omega
    have hnn := Lib.hid hk0
    have hzs : Hid ((n : Int) - 1 = ((d : Int) + (k0 : Int)) - 1) := by show _ = _; omega
    clear hFF hgr hkr hlz hcm hO4 hr0 hlt hle hk0
    go_loopw [9] (fun v wr => ∃ (k : Nat) (Q R : List UInt8), k ≤ k0 ∧ v = .int .i64 (((d : Int) + (k : Int)) - 1) ∧ Hid (Q.length = n1 ∧ R.length = n ∧ dvd b k Q R = FF) ∧ Hid (Blk wr gq (Q.map bv) 5) ∧ Hid (Blk wr gr (R.map bv ++ Z) 5) ∧ Hid (Below g2 w4 wr ∨ True) ∧ Hid (Below w.heap.size w wr) ∧ Hid (Blk wr w.heap.size [.slice none 0 0, .slice none 0 0, .int .i64 0] 35) ∧ Hid (Rds wr B (some bd) (b.map bv)) ∧ Hid (B ≤ wr.heap.size)) (fun v _ => (intOf v + 1 - (d : Int)).toNat)
    case atStart => exact ⟨k0, _, _, by omega, by first | rfl | (rw [hzs.out]), hst, hQ4, hkr', .inr trivial, hBw4, hS4, hY4, hB4s⟩
    case round =>
      clear hst hQ4 hkr' hBw4 hS4 hY4 hB4s
      obtain ⟨k, Q, R, hk, rfl, hI, hQ, hR, _, hBw, hS, hYr, hBs⟩ := hrel
      cases k with
      | zero =>
        obtain ⟨z, hz⟩ : ∃ z, z = ((d : Int) + ((0 : Nat) : Int)) - 1 := ⟨_, rfl⟩
        rw [← hz]
        have hzn : ¬ z ≥ (d : Int) := by omega
        have hend : Hid (FF = (Q, R)) := hI.out.2.2.symm
        have hq1 : Hid (trim Q = dq a b ∧ trim R = dr a b) := by have h := hF1.out; rw [hend.out] at h; exact h
        have hrd : Hid (Rds wr wr.heap.size (some ⟨gr, 0, none⟩) (R.map bv)) := by
          have hrd := hR.out.rds 0 n
          rw [List.drop_zero, List.take_append_of_le_length (by rw [List.length_map, hI.out.2.1]; exact Nat.le_refl _), List.take_of_length_le (by rw [List.length_map, hI.out.2.1]; exact Nat.le_refl _)] at hrd
          exact hrd
        clear hz
        have TQ : Hid (Calls Tryd.prog 22 #[.slice (some ⟨gq, 0, none⟩) n1 n1] wr fun e w' => ∃ v, e = .returned v ∧ OwnB w' wr.heap.size v (dq a b) ∧ Below wr.heap.size wr w') := by
          have hrd := hQ.out.rds 0 n1
          rw [List.drop_zero, List.take_of_length_le (by rw [List.length_map, hI.out.1]; exact Nat.le_refl _)] at hrd
          have := refTrim_any Q (some ⟨gq, 0, none⟩) n1 wr hrd (Nat.le_refl _) (by rw [hI.out.1]; omega)
          rw [hI.out.1, hq1.out.1] at this
          exact this
        have TR : Hid (∀ V, Below wr.heap.size wr V → Calls Tryd.prog 22 #[.slice (some ⟨gr, 0, none⟩) n cr] V fun e w' => ∃ v, e = .returned v ∧ OwnB w' V.heap.size v (dr a b) ∧ Below V.heap.size V w') := fun V hV => by
          have := refTrim_any R (some ⟨gr, 0, none⟩) cr V ((hrd.out).below hV) hV.size (by rw [hI.out.2.1]; omega)
          rw [hI.out.2.1, hq1.out.2] at this
          exact this
        go_wp2_with fail
        refine TQ.out.mono ?_
        rintro e w8 ⟨v8, rfl, ho8, hb8⟩
        have TR8 := Lib.hid (TR.out w8 hb8)
        have hS8 := Lib.hid (hS.out.below hb8 hS.out.lt)
        have hBw8 := Lib.hid (hBw.out.trans (hb8.mono hBw.out.size))
        have hlt8 : Hid (w.heap.size < wr.heap.size) := hS.out.lt
        have ho8' := Lib.hid ho8
        obtain ⟨A8, n8, c8, rfl, _⟩ := rowV_own ho8
        clear ho8 hb8 TR TQ
        go_wp2_with fail
        refine TR8.out.mono ?_
        rintro e w9 ⟨v9, rfl, ho9, hb9⟩
        have hS9 := Lib.hid (hS8.out.below hb9 hS8.out.lt)
        have hBw9 := Lib.hid (hBw8.out.trans (hb9.mono hBw8.out.size))
        have ho89 := Lib.hid (ownB_kp ho8'.out hb9)
        have hlt9 : Hid (w.heap.size < w8.heap.size) := hS8.out.lt
        have ho9' := Lib.hid ho9
        obtain ⟨A9, n9, c9, rfl, _⟩ := rowV_own ho9
        clear ho9 hb9 TR8 ho8'
        go_wp2_with (refine wpList_row_store rfl 35 _ _ rfl [.slice A8 n8 c8, .slice A9 n9 c9, .int .i64 0] rfl rfl hS9.out size_dvd6 rfl (dvd_one6 _ _ _ _ _ _ _) ?_; intro w10 hw10 ho10)
        exact bodyPost_ret (ret_blk rfl _ w10 (g := w.heap.size) rfl hw10.out dd hdu'.out hdr size_dvd6) rfl ⟨A8, n8, c8, A9, n9, c9, rfl, rowV_of (ownB_only ho89.out ho10 hlt8.out), rowV_of (ownB_only ho9'.out ho10 hlt9.out), hBw9.out.trans (ho10.below (Nat.le_refl _))⟩
      | succ k =>
        have hnext : Hid (dvd b k (Q.set k (dvc b R k)) (rsub R b k (dvc b R k)) = FF) := by have := hI.out.2.2; rw [dvd] at this; exact this
        have hQl := Lib.hid hI.out.1
        have hRl := Lib.hid hI.out.2.1
        have hnk := hnn.out
        obtain ⟨p, hp⟩ : ∃ p, p = d + k := ⟨_, rfl⟩
        rw [show ((d : Int) + (((k + 1 : Nat)) : Int)) - 1 = (p : Int) by omega]
        have hk1 : k < n1 := by omega
        have t0 : (p : Int) ≥ (d : Int) := by omega
        have tp : (p : Int) < (n : Int) := by omega
        have tp0 : 0 ≤ (p : Int) := by omega
        have tk : (k : Int) < (n1 : Int) := by omega
        have tk0 : 0 ≤ (k : Int) := by omega
        have epd : (p : Int) - (d : Int) = (k : Int) := by omega
        have epw : IntKind.i64.wrap (k : Int) = (k : Int) := by rw [IntKind.wrap_i64]; omega
        have hpn : p < n := by omega
        have hpk : Hid (p = k + (dg b - 1)) := by show _ = _; rw [← hlbh.out]; have := hlbd.out; omega
        have hX1 := at_co (p := R) (k := p) (by rw [hRl.out]; exact hpn)
        have hcR := hR.out.cell (j := p) (v := bv (co R p)) (by rw [List.getElem?_append_left (by rw [List.length_map, hRl.out]; exact hpn), List.getElem?_map, hX1]; rfl)
        have hy : Hid (Gf.mul (co R p) inv = dvc b R k) := by show _ = _; unfold dvc; rw [hpk.out, hinv'.out, htb'.out]
        have HM := Lib.hid (refMul_any (co R p) inv wr)
        rw [hy.out] at HM
        obtain ⟨y, hyy⟩ : ∃ y, y = dvc b R k := ⟨_, rfl⟩
        have hyy' := Lib.hid hyy
        rw [← hyy] at HM hnext
        have hfit : Hid (k + 1 ≤ (Q.map bv).length) := by show _ ≤ _; rw [List.length_map, hQl.out]; omega
        have hkQ : Hid (k < Q.length) := by show _ < _; rw [hQl.out]; omega
        have HM' := HM.out
        have hRk : Hid (k + dg b ≤ R.length) := by show _ ≤ _; rw [hRl.out, ← hlbh.out]; have := hlbd.out; omega
        have hkd : k + d < n := by omega
        have hpd := Lib.hid hp
        clear hX1 hI hy hyy HM hnk hp
        generalize co R p = rp at *
        unfold bv at hcR HM'
        go_wp2_with fail
        refine HM'.mono ?_
        rintro e w5 ⟨rfl, rfl⟩
        clear HM' hcR
        go_wp2_with (refine wpList_blk_store rfl 5 _ _ rfl k (bv y) rfl rfl hQ.out size_u8 hfit.out (one_u8 y) ?_; intro w7 hw7 ho7)
        have hQ7 := Lib.hid (blk_set hw7 hkQ.out)
        have hR7 := Lib.hid (hR.out.only ho7 hgne.out)
        have hB7 := Lib.hid (hBw.out.trans (ho7.below (Nat.le_of_lt hgq.out.1)))
        have hS7 := Lib.hid (hS.out.only ho7 (fun e => by have := hgq.out.1; omega))
        have hgB : Hid (B ≤ gq) := hBgq.out
        have hY7 := Lib.hid (hYr.out.below (ho7.below hgB.out))
        have hBs7 : Hid (B ≤ w7.heap.size) := by show _ ≤ _; rw [ho7.size]; exact hBs.out
        have hQnl : Hid ((Q.set k y).length = n1) := by show _ = _; rw [List.length_set]; exact hQl.out
        clear hw7 ho7 hQ hR hBw hS hYr hBs
        generalize Q.set k y = Q2 at *
        go_loopw [11] (fun v wr => ∃ (i : Nat) (X : List UInt8), i ≤ d + 1 ∧ v = .int .i64 i ∧ Hid (X.length = n ∧ ∀ j, co X j = co R j ^^^ (if j < k + i then Gf.mul y (sh b k j) else 0)) ∧ Hid (Blk wr gq (Q2.map bv) 5) ∧ Hid (Blk wr gr (X.map bv ++ Z) 5) ∧ Hid (Below w.heap.size w wr) ∧ Hid (Blk wr w.heap.size [.slice none 0 0, .slice none 0 0, .int .i64 0] 35) ∧ Hid (Rds wr B (some bd) (b.map bv)) ∧ Hid (B ≤ wr.heap.size)) (fun v _ => d + 1 - (intOf v).toNat)
        case atStart =>
          refine ⟨0, R, by omega, rfl, ⟨hRl.out, fun j => ?_⟩, hQ7, hR7, hB7, hS7, hY7, hBs7⟩
          by_cases hj : j < k + 0
          · rw [if_pos hj]; unfold sh; rw [if_neg (by omega), Gf.mul_zero, UInt8.xor_zero]
          · rw [if_neg hj, UInt8.xor_zero]
        case round =>
          clear hQ7 hR7 hB7 hS7 hY7 hBs7
          obtain ⟨i, X, hi, rfl, hX, hQ, hR, hBw, hS, hYr, hBs⟩ := hrel
          by_cases hlti : i < d + 1
          · have ti : (i : Int) ≤ (d : Int) := by omega
            have ti0 : 0 ≤ (i : Int) := by omega
            have tim : (i : Int) < (m : Int) := by omega
            obtain ⟨q, hq0⟩ : ∃ q, q = k + i := ⟨_, rfl⟩
            have eq1 : (k : Int) + (i : Int) = (q : Int) := by omega
            have hqn : q < n := by omega
            have tq : (q : Int) < (n : Int) := by omega
            have tq0 : 0 ≤ (q : Int) := by omega
            have eqw : IntKind.i64.wrap (q : Int) = (q : Int) := by rw [IntKind.wrap_i64]; omega
            have hqh := Lib.hid hq0
            have hxb := at_co (p := b) (k := i) (by rw [← hml.out]; omega)
            have hX1 := at_co (p := X) (k := q) (by rw [hX.out.1]; omega)
            obtain ⟨bd2, e9, hbb2, hcb⟩ := hYr.out.look (k := i) (u := bv (co b i)) (by rw [List.getElem?_map, hxb]; rfl)
            cases e9
            have hcX := hR.out.cell (j := q) (v := bv (co X q)) (by rw [List.getElem?_append_left (by rw [List.length_map, hX.out.1]; omega), List.getElem?_map, hX1]; rfl)
            have hnx : Hid ((X.set q (co X q ^^^ Gf.mul y (co b i))).length = n ∧ ∀ j, co (X.set q (co X q ^^^ Gf.mul y (co b i))) j = co R j ^^^ (if j < k + (i + 1) then Gf.mul y (sh b k j) else 0)) := by
              refine ⟨by rw [List.length_set]; exact hX.out.1, fun j => ?_⟩
              rw [co_set (by rw [hX.out.1]; exact hqn), hX.out.2 q, hX.out.2 j]
              by_cases hj : j = q
              · rw [if_pos hj, hj, if_neg (by rw [hqh.out]; omega), if_pos (by rw [hqh.out]; omega), UInt8.xor_zero]
                unfold sh
                rw [if_pos (by rw [hqh.out]; omega), show q - k = i by rw [hqh.out]; omega]
              · rw [if_neg hj]
                have hq1 := hqh.out
                by_cases hj2 : j < k + i
                · rw [if_pos hj2, if_pos (by omega)]
                · rw [if_neg hj2, if_neg (by omega)]
            have hkX : Hid (q < X.length) := by show _ < _; rw [hX.out.1]; omega
            have hfit : Hid (q + 1 ≤ (X.map bv ++ Z).length) := by show _ ≤ _; rw [List.length_append, List.length_map, hX.out.1]; omega
            have hM := refMul_any y (co b i) wr.drew
            obtain ⟨mm, hm⟩ : ∃ mm, mm = Gf.mul y (co b i) := ⟨_, rfl⟩
            rw [← hm] at hM hnx
            have hxx := u8_xor_bv (co X q) mm
            clear hm hxb hX1 hq0
            generalize co b i = u' at *
            generalize co X q = v at *
            generalize v ^^^ mm = y2 at *
            unfold bv at hcb hcX hM
            have hbd2 : bd.block < wr.heap.size := Nat.lt_of_lt_of_le hbb2 hBs.out
            have zx : ∀ z : ExtOf wr.drew, z.world.cell? ⟨gr, q, none⟩ = some (.int .u8 (v.toNat : Int)) := fun z => (Below.cell (p := ⟨gr, q, none⟩) (z.ext) hR.out.lt).trans hcX
            have zb : ∀ z : ExtOf wr.drew, z.world.cell? (bd.add i) = some (.int .u8 (u'.toNat : Int)) := fun z => (Below.cell (p := bd.add i) (z.ext) (by rw [add_block]; exact hbd2)).trans hcb
            clear hcX hcb
            go_wp2_with fail
            refine wp_region_planM [22] [(true, 0), (true, 1), (true, 2), (true, 3), (true, 4), (true, 5), (true, 6), (true, 7), (true, 8), (true, 9), (true, 10), (true, 11), (true, 12), (true, 13), (true, 14), (true, 15), (true, 16), (true, 17), (true, 18), (false, 19), (true, 20), (true, 21), (false, 22)] (by decide) (by kernel_rfl) (by kernel_rfl) (by decide) (by intro c a d v w h; cases d <;> exact h) ?_
            change wpPlanM _ _ _ _ _ _ wr.drew
            iterate 19 (refine wpPlanM_plain rfl (fun K hK => ?_); go_simp; refine hK _ ?_; clear hK K)
            clear zx zb
            refine wpPlanM_call rfl (fun K hK => ?_)
            go_wp2_with fail
            refine hM.mono ?_
            rintro e w4 ⟨rfl, rfl⟩
            go_wp2_with fail
            refine planPostL_normal ⟨.inr (Below.refl _ _), hK _ _ ?_⟩
            clear hK K hM
            iterate 2 (refine wpPlanM_plain rfl (fun K hK => ?_); go_simp; refine hK _ ?_; clear hK K)
            refine wpPlanM_call rfl (fun K hK => ?_)
            refine wpList_blk_store rfl 5 _ _ rfl q (bv y2) rfl rfl hR.out.drew size_u8 hfit.out (one_u8 y2) ?_
            intro w7 hw7 ho7
            refine wpList_end (planPostL_normal ⟨.inl (by decide), hK _ _ ?_⟩)
            clear hK K
            refine wpPlanM_nil ?_
            have hR7 := Lib.hid (blk_setZ hw7 hkX.out)
            have ho7' : Only gr wr w7 := ⟨ho7.os, ho7.tape, ho7.output, ho7.size, ho7.block⟩
            have hQ7 := Lib.hid (hQ.out.only ho7' (fun e => hgne.out e.symm))
            have hB7 := Lib.hid (hBw.out.trans (ho7'.below (by have := hgq.out; have := hgr'.out; omega)))
            have hS7 := Lib.hid (hS.out.only ho7' (fun e => by have := hgq.out; have := hgr'.out; omega))
            have hY7 := Lib.hid (hYr.out.below (ho7'.below (by have := hBgq.out; have := hgq.out; have := hgr'.out; omega)))
            have hBs7 : Hid (B ≤ w7.heap.size) := by show _ ≤ _; rw [ho7'.size]; exact hBs.out
            clear hw7 ho7 ho7'
            go_wp2_with fail
            go_roundw
            case rel => exact ⟨i + 1, X.set q y2, by omega, by go_num, hnx, hQ7, hR7, hB7, hS7, hY7, hBs7⟩
            case measure => simp [intOf]; omega
          · have ti : ¬ (i : Int) ≤ (d : Int) := by omega
            have hXR : Hid (X = rsub R b k (dvc b R k)) := by
              refine list_ext (by rw [rsub_len, hX.out.1, hRl.out]) fun j => ?_
              rw [hX.out.2 j, co_rsub _ hRk.out, ← hyy'.out]
              by_cases hj : j < k + i
              · rw [if_pos hj]
              · rw [if_neg hj, sh_above (by rw [← hlbh.out]; have := hlbd.out; omega), Gf.mul_zero]
            have hfinal : Hid (Q2.length = n1 ∧ X.length = n ∧ dvd b k Q2 X = FF) := ⟨hQnl.out, hX.out.1, by
              rw [hXR.out, ← hyy'.out]; exact hnext.out⟩
            have epz : (p : Int) - 1 = ((d : Int) + (k : Int)) - 1 := by have := hpd.out; omega
            have epzw : IntKind.i64.wrap ((p : Int) - 1) = ((d : Int) + (k : Int)) - 1 := by rw [IntKind.wrap_i64]; have := hpd.out; omega
            go_wp2_with fail
            go_roundw
            case rel => exact ⟨k, Q2, X, by omega, by first | rfl | (go_simp; done), hfinal, hQ, hR, .inr trivial, hBw, hS, hYr, hBs⟩
            case measure => simp [intOf]; omega
end Go.Proofs.YtbilfhipmebmlaaDoor
