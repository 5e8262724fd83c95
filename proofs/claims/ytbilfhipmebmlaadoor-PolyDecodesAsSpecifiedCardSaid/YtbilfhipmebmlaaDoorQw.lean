/-
  Contracts of stage 6: the reference's Decode.
-/
import Derived.Test.YtbilfhipmebmlaaDoorQs
namespace Go.Proofs.YtbilfhipmebmlaaDoor
set_option linter.unusedVariables false
set_option linter.unusedSimpArgs false
open Go.RowKit

theorem size_dec6 : (Tryd.prog.info? 48).map (·.size) = some 3 := by kernel_rfl
theorem row_dec6 : ∃ d, Tryd.prog.underlying 48 = some d ∧ d.isRow = true := ⟨_, Tryd.underlying48, rfl⟩
theorem rowN_of {W : World} {base : Nat} {A : Option Addr} {n c : Nat} {l : List Nat} (h : OwnP W base (.slice A n c) l) : RowN W A n l := by
  obtain ⟨A', n', c', e, h'⟩ := rowN_own h
  cases e
  exact h'
theorem ownP_only {w w' : World} {base k : Nat} {v : Value} {l : List Nat} (h : OwnP w base v l) (ho : Only k w w') (hk : k < base) : OwnP w' base v l := by
  obtain ⟨h1, h2⟩ := h
  refine ⟨h1, ?_⟩
  rcases h2 with h2 | ⟨g, cap, cur, e1, e2, e3, e4⟩
  · exact .inl h2
  · exact .inr ⟨g, cap, cur, e1, e2, (ho.block g (by omega)).trans e3, e4⟩
/-- Two rows whose blocks are apart. -/
def Ap (u v : Value) : Prop := ∀ g, u.ownBlock = some g → v.ownBlock ≠ some g
theorem Ap.symm {u v : Value} (h : Ap u v) : Ap v u := fun g h1 h2 => h g h2 h1
theorem own_onto {w w' : World} {base : Nat} {u v v' : Value} {m : List UInt8} (h : OwnB w base u m) (hon : Onto w v w' v') (ha : Ap u v) : OwnB w' base u m ∧ Ap u v' := by
  refine ⟨⟨h.1, ?_⟩, fun g h1 h2 => ?_⟩
  · rcases h.2 with hn | ⟨g, cap, cur, e1, e2, e3, e4⟩
    · exact .inl hn
    · exact .inr ⟨g, cap, cur, e1, e2, by
        rw [hon.1.block g (Array.getElem?_eq_some_iff.1 e3).1 (fun e => ha g (by rw [e1]; rfl) e.symm)]; exact e3, e4⟩
  · have hlt := (own_lt h h1).2
    rcases hon.2 with e | ⟨k, e, hk⟩
    · rw [e] at h2; exact ha g h1 h2
    · rw [e] at h2
      have : k = g := Option.some.inj h2
      omega
theorem i64_and1 (n : Int) : bits .and .i64 n 1 = n % 2 := by
  have h1 : (BitVec.ofInt 64 1).toNat = 2 ^ 1 - 1 := by decide
  have key : (BitVec.ofInt 64 n &&& BitVec.ofInt 64 1).toNat = (n % ((2 ^ 64 : Nat) : Int)).toNat % 2 ^ 1 := by
    rw [BitVec.toNat_and, BitVec.toNat_ofInt, h1, Nat.and_two_pow_sub_one_eq_mod]
  show IntKind.i64.wrap ((BitVec.ofInt 64 n &&& BitVec.ofInt 64 1).toNat : Nat) = n % 2
  rw [key, IntKind.wrap_i64]
  omega
theorem bit_int (s k : Nat) : (bits BinOp.and IntKind.i64 ((s : Int) / 2 ^ k) 1 == 1) = s.testBit k := by
  have e : (s : Int) / 2 ^ k = ((s / 2 ^ k : Nat) : Int) := by rw [Int.natCast_ediv, Int.natCast_pow]; rfl
  rw [i64_and1, e, Nat.testBit_eq_decide_div_mod_eq]
  by_cases h : s / 2 ^ k % 2 = 1
  · rw [decide_eq_true h]
    simp only [beq_iff_eq]
    omega
  · rw [decide_eq_false h]
    simp only [beq_eq_false_iff_ne, ne_eq]
    omega
theorem sel_take (l : List UInt8) (s k : Nat) (hb : s.testBit k = true) : (sel s (k + 1)).map (co l) = (sel s k).map (co l) ++ [co l k] := by rw [sel_yes hb]; simp

set_option maxRecDepth 100000 in
set_option maxHeartbeats 8000000 in
theorem refdec_ok {B : Nat} (xs ys : List UInt8) (A A' : Option Addr) (c c' n ny d wrong : Nat) (w : World) (h : RowV w A n c xs) (h' : RowV w A' ny c' ys) (he : n = ny) (hl : n ≤ 20) (hd : Dist xs n) (hw : d + 1 + 2 * wrong ≤ n) :
    Calls Tryd.prog 34 #[.slice A n c, .slice A' ny c', .int .i64 d, .int .i64 wrong] w fun e w' =>
      (∃ P A1 n1 c1 A2 n2 c2, Found xs ys n d wrong P ∧ e = .returned (.agg #[.slice A1 n1 c1, .slice A2 n2 c2, .int .i64 0]) ∧ RowV w' A1 n1 c1 P ∧ RowN w' A2 n2 (missL P xs ys n) ∧ Below w.heap.size w w') ∨ (Lost xs ys n d wrong ∧ e = .returned (.agg #[.slice none 0 0, .slice none 0 0, .int .i64 17]) ∧ Below w.heap.size w w') := by
  obtain ⟨dd, hdu, hdr⟩ := row_dec6
  have hdu' := Lib.hid hdu
  obtain ⟨W1, hW1⟩ : ∃ W1, W1 = w.alloc (.cells #[.slice none 0 0, .slice none 0 0, .int .i64 0] 48) := ⟨_, rfl⟩
  have hB1 : Hid (Below w.heap.size w W1) := by show Below _ _ _; rw [hW1]; exact (Below.refl _ _).alloc (Nat.le_refl _) _
  have hR1 : Hid (Blk W1 w.heap.size [.slice none 0 0, .slice none 0 0, .int .i64 0] 48) := by show Blk _ _ _ _; rw [hW1]; exact Blk.new _ [_, _, _] _
  have hW1' := Lib.hid hW1
  have RT := Lib.hid (right_v (A' := A') (c' := c') (h.keep hB1.out) (by omega) (by omega) true ⟨fun _ => ⟨hd, he⟩, fun _ => rfl⟩)
  have Q0 := Lib.hid (h.keep hB1.out)
  have Q1 := Lib.hid (h'.keep hB1.out)
  have hd' := Lib.hid hd
  have hw' := Lib.hid hw
  have he' := Lib.hid he
  obtain ⟨d1, hd1⟩ : ∃ d1, d1 = d + 1 := ⟨_, rfl⟩
  obtain ⟨w2, hw2⟩ : ∃ w2, w2 = 2 * wrong := ⟨_, rfl⟩
  obtain ⟨s3, hs3⟩ : ∃ s, s = d1 + w2 := ⟨_, rfl⟩
  have e1 : (d : Int) + 1 = (d1 : Int) := by omega
  have e2 : (2 : Int) * (wrong : Int) = (w2 : Int) := by omega
  have e3 : (d1 : Int) + (w2 : Int) = (s3 : Int) := by omega
  have f1 : IntKind.i64.wrap (d1 : Int) = (d1 : Int) := by rw [IntKind.wrap_i64]; omega
  have f2 : IntKind.i64.wrap (w2 : Int) = (w2 : Int) := by rw [IntKind.wrap_i64]; omega
  have f3 : IntKind.i64.wrap (s3 : Int) = (s3 : Int) := by rw [IntKind.wrap_i64]; omega
  have t1 : ¬ (d : Int) < 0 := by omega
  have t2 : ¬ (wrong : Int) < 0 := by omega
  have t3 : ¬ (d : Int) ≥ (n : Int) := by omega
  have t4 : ¬ (wrong : Int) > (n : Int) := by omega
  have t5 : ¬ (n : Int) < (s3 : Int) := by omega
  have x1 : decide (n ≤ d) = false := by simp only [decide_eq_false_iff_not]; omega
  have x2 : decide (n < wrong) = false := by simp only [decide_eq_false_iff_not]; omega
  have x3 : decide (n < s3) = false := by simp only [decide_eq_false_iff_not]; omega
  obtain ⟨N, hN⟩ : ∃ N, N = 2 ^ n := ⟨_, rfl⟩
  have hNl : N ≤ 1048576 := by rw [hN]; exact Nat.le_trans (Nat.pow_le_pow_right (by omega) hl) (by decide)
  have p1 : (2 : Int) ^ n = (N : Int) := by rw [hN]; exact (Int.natCast_pow 2 n).symm
  have p2 : (1 : Int) <<< n = (N : Int) := by rw [Int.shiftLeft_eq, p1]; omega
  have p3 : IntKind.i64.wrap (N : Int) = (N : Int) := by rw [IntKind.wrap_i64]; omega
  have p4 : (1 : Int) * 2 ^ n = (N : Int) := by rw [p1]; omega
  have hNh := Lib.hid hN
  have hd1h := Lib.hid hd1
  have tn0 : 0 ≤ (n : Int) := by omega
  clear hdu hW1 h h' hd hw he hd1 hw2 hs3 hN
  go_enter Tryd.func34, Tryd.ntmps34
  go_wp2_with fail
  generalize hg : w.alloc _ = Wg
  have hgW : W1 = Wg := by rw [← hg, hW1'.out]
  clear hg hW1'
  subst hgW
  refine RT.out.mono ?_
  rintro e w2 ⟨rfl, hb⟩
  have hlow : Hid (w.heap.size < W1.heap.size) := hR1.out.lt
  have E1 : Hid (Fol W1 w2) := hb
  clear hb RT
  go_wp2_with fail
  go_loopw [11] (fun v wr => ∃ s : Nat, s ≤ N ∧ v = .int .i64 s ∧ Hid (∀ s', s' < s → (sel s' n).length = d + 1 → wrong < (missL (selP xs ys s' n) xs ys n).length) ∧ Hid (Fol W1 wr)) (fun v _ => N - (intOf v).toNat)
  case atStart => exact ⟨0, by omega, rfl, (fun s' h => by omega), E1⟩
  case round =>
    clear E1
    obtain ⟨s, hs, rfl, hL, E⟩ := hrel
    by_cases hlt : s < N
    · have t : (s : Int) < (N : Int) := by omega
      have tn : s < N := hlt
      have hW1o : Hid (W1.heap.size ≤ wr.heap.size) := E.out.size
      obtain ⟨wo, hwo⟩ : ∃ wo, wo = wr := ⟨_, rfl⟩
      subst hwo
      go_wp2_with fail
      go_loopw [12, 13, 14] (fun va vb i wi => ∃ k : Nat, k ≤ n ∧ i = .int .i64 k ∧ Hid (OwnB wi wo.heap.size va ((sel s k).map (co xs))) ∧ Hid (OwnB wi wo.heap.size vb ((sel s k).map (co ys))) ∧ Hid (Ap va vb) ∧ Hid (Below wo.heap.size wo wi)) (fun _ _ i _ => n - (intOf i).toNat)
      case atStart => exact ⟨0, by omega, rfl, ownB_nil _ _, ownB_nil _ _, (fun g h => by cases h), Below.refl _ _⟩
      case round =>
        obtain ⟨k, hk, rfl, ha, hb, hap, hB⟩ := hrel
        by_cases hlk : k < n
        · have u : (k : Int) < (n : Int) := by omega
          have u0 : 0 ≤ (k : Int) := by omega
          have u1 : ¬ (k : Int) < 0 := by omega
          cases hbit : s.testBit k with
          | false =>
            have hbt : (bits BinOp.and IntKind.i64 ((s : Int) / 2 ^ k) 1 == 1) = false := by rw [bit_int]; exact hbit
            have hse := Lib.hid (sel_no hbit)
            clear hbit
            go_wp2_with fail
            go_roundw
            case rel => exact ⟨k + 1, by omega, by go_num, by rw [hse.out]; exact ha, by rw [hse.out]; exact hb, hap, hB⟩
            case measure => simp [intOf]; omega
          | true =>
            have hbt : (bits BinOp.and IntKind.i64 ((s : Int) / 2 ^ k) 1 == 1) = true := by rw [bit_int]; exact hbit
            have hsa := Lib.hid (sel_take xs s k hbit)
            have hsb := Lib.hid (sel_take ys s k hbit)
            have hsl := sel_len s k
            have EW : Hid (Fol W1 wr) := E.out.trans (hB.out.mono hW1o.out)
            have X0 := Lib.hid (Q0.out.keep EW.out)
            have X1 := Lib.hid (Q1.out.keep EW.out)
            have hx := at_co (p := xs) (k := k) (by rw [← Q0.out.len]; exact hlk)
            have hy := at_co (p := ys) (k := k) (by rw [← Q1.out.len, ← he'.out]; exact hlk)
            obtain ⟨ad, rfl, hab, hca⟩ := (Q0.out.rds.below EW.out).look (k := k) (u := bv (co xs k)) (by rw [List.getElem?_map, hx]; rfl)
            obtain ⟨bd, rfl, hbb, hcb⟩ := (Q1.out.rds.below EW.out).look (k := k) (u := bv (co ys k)) (by rw [List.getElem?_map, hy]; rfl)
            have hbbw : Hid (bd.block < wo.heap.size) := Nat.lt_of_lt_of_le hbb hW1o.out
            have uy : (k : Int) < (ny : Int) := by have := he'.out; omega
            have hla : ((sel s k).map (co xs)).length ≤ 140737488355300 := by rw [List.length_map]; omega
            have hlb : ((sel s k).map (co ys)).length ≤ 140737488355300 := by rw [List.length_map]; omega
            have hsz := hB.out.size
            unfold bv at hca hcb
            clear hx hy hab hbb hbit
            generalize (sel s k).map (co xs) = LA at *
            generalize (sel s k).map (co ys) = LB at *
            generalize co xs k = x at *
            generalize co ys k = y at *
            go_wp2_with (first | (at_builtin; refine push_byte rfl _ _ rfl wo.heap.size u12 LA x _ rfl rfl rfl ha.out hla hsz ?_; intro va' w1 hoa hona; have hcy := ((hona.below ha.out hsz).cell (p := bd.add k) (by rw [add_block]; exact hbbw.out)).trans hcb; have hbO := Lib.hid (own_onto hb.out hona hap.out.symm); have hsz1 := Nat.le_trans hsz (hona.below ha.out hsz).size; have hb1 := Lib.hid (hona.below ha.out hsz)) | (at_builtin; refine push_byte rfl _ _ rfl wo.heap.size u13 LB y _ rfl rfl rfl hbO.out.1 hlb hsz1 ?_; intro vb' w2 hob honb))
            have haO := own_onto hoa honb hbO.out.2.symm
            have hB2 := Lib.hid ((hB.out.trans hb1.out).trans (honb.below hbO.out.1 hsz1))
            go_roundw
            case rel => first | exact ⟨k + 1, by omega, by go_num, by rw [hsa.out]; exact haO.1, by rw [hsb.out]; exact hob, haO.2, hB2⟩ | exact ⟨_, _, _, ⟨k + 1, by omega, rfl, by rw [hsa.out]; exact haO.1, by rw [hsb.out]; exact hob, haO.2, hB2⟩, rfl, rfl, by go_num⟩
            case measure => simp [intOf]; omega
        · have u : ¬ (k : Int) < (n : Int) := by omega
          obtain rfl : k = n := by omega
          have EW : Hid (Fol W1 wr) := E.out.trans (hB.out.mono hW1o.out)
          have X0 := Lib.hid (Q0.out.keep EW.out)
          have X1 := Lib.hid (Q1.out.keep EW.out)
          obtain ⟨Aa, na, ca, rfl, hRa⟩ := rowV_own ha.out
          obtain ⟨Ab, nb, cb, rfl, hRb⟩ := rowV_own hb.out
          have hRa' := Lib.hid hRa
          have hRb' := Lib.hid hRb
          have hna : Hid (na = (sel s k).length ∧ nb = na) := ⟨by have := hRa.len; rw [List.length_map] at this; exact this, by have h1 := hRa.len; have h2 := hRb.len; rw [List.length_map] at h1 h2; omega⟩
          have hnal := sel_len s k
          clear ha hb hap hRa hRb
          by_cases hm : na = d1
          · have v1 : ((na : Int) != (d1 : Int)) = false := by simp only [bne_eq_false_iff_eq]; omega
            have hlen : Hid ((sel s k).length = d + 1) := by show _ = _; rw [← hna.out.1, hm]; exact hd1h.out
            have LN : Hid (Calls Tryd.prog 71 #[.slice Aa na ca, .slice Ab nb cb] wr fun e w' => ∃ v, e = .returned v ∧ OwnB w' wr.heap.size v (selP xs ys s k) ∧ Below wr.heap.size wr w') := by
              have := refLine_any (B := wr.heap.size) ((sel s k).map (co xs)) ((sel s k).map (co ys)) Aa Ab ca cb na nb wr hRa'.out.rds hRb'.out.rds (Nat.le_refl _) hRa'.out.len hRb'.out.len (Nat.le_of_eq hna.out.2.symm) (by have := hna.out.1; omega) (by rw [hna.out.1]; exact dist_sel hd'.out s)
              rw [hna.out.1] at this
              unfold selP
              rw [← hna.out.1] at this ⊢
              exact this
            have hsp := Lib.hid (selP_dg (ys := ys) hd'.out s)
            have hnb2 := Lib.hid hna.out.2
            clear hm
            go_wp2_with fail
            refine LN.out.mono ?_
            rintro e w5 ⟨v5, rfl, ho5, hb5⟩
            replace EW := Lib.hid (EW.out.to hb5)
            replace X0 := Lib.hid (X0.out.keep hb5)
            replace X1 := Lib.hid (X1.out.keep hb5)
            have ho5' := Lib.hid ho5
            have hb5s := Lib.hid hb5.size
            obtain ⟨A5, n5, c5, rfl, hR5⟩ := rowV_own ho5
            have R5 := Lib.hid hR5
            have h5 : n5 ≤ 100000 := by
              have h1 := hR5.len
              have h2 := hsp.out
              rw [← h2.2, trim_len] at h1
              have := hlen.out
              omega
            clear ho5 hb5 hR5 LN
            go_wp2_with fail
            refine (refMissed_any (selP xs ys s k) xs ys A5 A A' c5 c c' n5 k ny w5 R5.out.rds X0.out.rds X1.out.rds (Nat.le_refl _) R5.out.len X0.out.len X1.out.len (Nat.le_of_eq he'.out) h5 (by omega)).mono ?_
            rintro e w6 ⟨v6, rfl, ho6, hb6⟩
            have ho66 := Lib.hid ho6
            have ho56 := Lib.hid (ownB_kp ho5'.out hb6)
            have hlw5 : Hid (wr.heap.size ≤ w5.heap.size) := hb5s.out
            obtain ⟨A6, n6, c6, rfl, hR6⟩ := rowN_own ho6
            replace EW := Lib.hid (EW.out.to hb6)
            have R6 := Lib.hid hR6
            have R5' := Lib.hid (R5.out.keep hb6)
            have hS6 : Hid (Blk w6 w.heap.size [.slice none 0 0, .slice none 0 0, .int .i64 0] 48) := hR1.out.below EW.out hlow.out
            clear hR6 hb6 ho6
            by_cases hmm : n6 ≤ wrong
            · have v2 : (n6 : Int) ≤ (wrong : Int) := by omega
              have hF : Hid (Found xs ys k d wrong (selP xs ys s k)) := ⟨by have := hsp.out.1; have := hlen.out; omega, hsp.out.2, by rw [← R6.out.len]; exact hmm⟩
              clear hmm
              go_wp2_with (refine wpList_row_store rfl 48 _ _ rfl [.slice A5 n5 c5, .slice A6 n6 c6, .int .i64 0] rfl rfl hS6.out size_dec6 rfl (dvd_one6 _ _ _ _ _ _ _) ?_; intro w7 hw7 ho7)
              have hlw : w.heap.size < wr.heap.size := Nat.lt_of_lt_of_le hlow.out (Nat.le_trans hW1o.out hB.out.size)
              have R57 : RowV w7 A5 n5 c5 (selP xs ys s k) := rowV_of (ownB_only ho56.out ho7 hlw)
              have R67 : RowN w7 A6 n6 (missL (selP xs ys s k) xs ys k) := rowN_of (ownP_only ho66.out ho7 (Nat.lt_of_lt_of_le hlw hlw5.out))
              exact bodyPost_ret (ret_blk rfl _ w7 (g := w.heap.size) rfl hw7.out dd hdu'.out hdr size_dec6) rfl (.inl ⟨_, A5, n5, c5, A6, n6, c6, hF.out, rfl, R57, R67, (hB1.out.trans (EW.out.mono hB1.out.size)).trans (ho7.below (Nat.le_refl _))⟩)
            · have v2 : ¬ (n6 : Int) ≤ (wrong : Int) := by omega
              have v2b : decide (n6 ≤ wrong) = false := by simp only [decide_eq_false_iff_not]; omega
              have v2c : decide ((n6 : Int) ≤ (wrong : Int)) = false := by simp only [decide_eq_false_iff_not]; omega
              have hL2 : Hid (∀ s', s' < s + 1 → (sel s' k).length = d + 1 → wrong < (missL (selP xs ys s' k) xs ys k).length) := fun s' h1 h2 => by
                by_cases e : s' = s
                · subst e; rw [← R6.out.len]; omega
                · exact hL.out s' (by omega) h2
              clear hmm
              go_wp2_with fail
              go_roundw
              case rel => exact ⟨s + 1, by omega, by go_num, hL2, EW⟩
              case measure => simp [intOf]; omega
          · have v1 : ((na : Int) != (d1 : Int)) = true := by simp only [bne_iff_ne, ne_eq]; omega
            have hL2 : Hid (∀ s', s' < s + 1 → (sel s' k).length = d + 1 → wrong < (missL (selP xs ys s' k) xs ys k).length) := fun s' h1 h2 => by
              by_cases e : s' = s
              · subst e; exfalso; apply hm; rw [hna.out.1, h2]; exact hd1h.out.symm
              · exact hL.out s' (by omega) h2
            clear hm
            go_wp2_with fail
            go_roundw
            case rel => exact ⟨s + 1, by omega, by go_num, hL2, EW⟩
            case measure => simp [intOf]; omega
    · have t : ¬ (s : Int) < (N : Int) := by omega
      obtain rfl : s = N := by omega
      have hLost : Hid (Lost xs ys n d wrong) := fun f hf => sel_lost hd'.out hw'.out (fun s' h1 h2 => hL.out s' (by rw [hNh.out]; exact h1) h2) f hf
      have hS6 : Hid (Blk wr w.heap.size [.slice none 0 0, .slice none 0 0, .int .i64 0] 48) := hR1.out.below E.out hlow.out
      have hBB : Hid (Below w.heap.size w wr) := hB1.out.trans (E.out.mono hB1.out.size)
      clear hL
      go_wp2_with (refine wpList_row_store rfl 48 _ _ rfl [.slice none 0 0, .slice none 0 0, .int .i64 17] rfl rfl hS6.out size_dec6 rfl (dvd_one6 _ _ _ _ _ _ _) ?_; intro w7 hw7 ho7)
      exact bodyPost_ret (ret_blk rfl _ w7 (g := w.heap.size) rfl hw7.out dd hdu'.out hdr size_dec6) rfl (.inr ⟨hLost.out, rfl, hBB.out.trans (ho7.below (Nat.le_refl _))⟩)
end Go.Proofs.YtbilfhipmebmlaaDoor
