/-
  Contracts of stage 5: rows that are appended; the reference's Transpose. Contracts of stage 5: the reference's Combine.
-/
import Derived.Test.YtfbdhcpclccikaaDoorMrb
import Derived.Test.YtfbdhcpclccikaaDoorMv
namespace Go.Proofs.YtfbdhcpclccikaaDoor
set_option linter.unusedVariables false
set_option linter.unusedSimpArgs false
open Go.RowKit

theorem Rds.apart {w w' : World} {A : Option Addr} {xs : List Value} {row : Option Nat} (h : Rds w w.heap.size A xs) (hg : w.grownBy w' row) (hne : ∀ ad, A = some ad → row ≠ some ad.block) : Rds w' w'.heap.size A xs := fun hn => by
  obtain ⟨ad, e, hb, hc⟩ := h hn
  refine ⟨ad, e, Nat.lt_of_lt_of_le hb hg.size, fun j u hu => ?_⟩
  have := hc j u hu
  rw [← this]
  exact World.cell?_of_block (hg.block _ (by rw [add_block]; exact hb) (by rw [add_block]; exact fun hh => hne ad e hh.symm))
/-- A row that is read, whose block is another one. -/
def RowOff (x : Nat) (w : World) (row : Option Nat) (u : Value) (m : List UInt8) : Prop :=
  ∃ a c, u = .slice a m.length c ∧ m.length ≤ c ∧ c ≤ maxLen ∧ (a = none → c = 0) ∧ Rds w w.heap.size a (m.map bv) ∧ ∀ ad, a = some ad → row ≠ some ad.block ∧ ad.block < w.heap.size ∧ ad.block ≠ x
/-- Rows anywhere, whose slices are a row of the call's own that grows. -/
def OwnQ (x : Nat) (w : World) (base : Nat) (v : Value) (K : List (List UInt8)) : Prop :=
  ∃ vs : List Value, vs.length = K.length ∧ w.ownsRow base 43 1 v K.length vs ∧ ∀ (i : Nat) (u : Value) (m : List UInt8), vs[i]? = some u → K[i]? = some m → RowOff x w v.ownBlock u m
theorem ownQ_nil (x : Nat) (w : World) (base : Nat) : OwnQ x w base (.slice none 0 0) [] := ⟨[], rfl, World.ownsRow_nil w base _ _, fun i u m hu => by simp at hu⟩
theorem RowOff.below {x : Nat} {w w' : World} {row : Option Nat} {u : Value} {m : List UInt8} (h : RowOff x w row u m) (hb : Below w.heap.size w w') : RowOff x w' row u m := by
  obtain ⟨a, c, e1, e2, e3, e4, e5, e6⟩ := h
  exact ⟨a, c, e1, e2, e3, e4, (e5.below hb).more hb.size, fun ad ha => ⟨(e6 ad ha).1, Nat.lt_of_lt_of_le (e6 ad ha).2.1 hb.size, (e6 ad ha).2.2⟩⟩
theorem OwnQ.keep {x : Nat} {w w' : World} {base : Nat} {v : Value} {K : List (List UInt8)} (h : OwnQ x w base v K) (hb : Below w.heap.size w w') : OwnQ x w' base v K := by
  obtain ⟨vs, h1, h2, h3⟩ := h
  refine ⟨vs, h1, ⟨h2.1, ?_⟩, fun i u m hu hm => (h3 i u m hu hm).below hb⟩
  rcases h2.2 with hn | ⟨g, cap, cur, hv, hg, hh, rest⟩
  · exact .inl hn
  · exact .inr ⟨g, cap, cur, hv, hg, by rw [hb.block g (Array.getElem?_eq_some_iff.1 hh).1]; exact hh, rest⟩
theorem OwnQ.mat {x : Nat} {w : World} {base : Nat} {v : Value} {K : List (List UInt8)} (h : OwnQ x w base v K) : ∃ A c, v = .slice A K.length c ∧ K.length ≤ c ∧ c ≤ maxLen ∧ (A = none → c = 0) ∧ Mat w w.heap.size A K := by
  obtain ⟨vs, h1, h2, h3⟩ := h
  obtain ⟨A, c, hv, g1, g2, g3, g4⟩ := own_form h2
  refine ⟨A, c, hv, g1, g2, g3, vs, h1, g4, fun i u m hu hm => ?_⟩
  obtain ⟨a, c, e1, e2, e3, e4, e5, _⟩ := h3 i u m hu hm
  exact ⟨a, c, e1, e2, e3, e4, e5⟩
/-- 'k = append(k, row)', k the call's own, row in another block. -/
theorem push_q {y : Nat} {w0 : World} {ops : Array Oper} {rest : List Oper} {o : Oper} {a : Act} {Q : Exit → Act → World → Prop} (hgd : o.guard = none) (s x : Operand)
    (ho : o.op = .call { callee := .builtin .append, args := #[s, x], argTypes := #[22, 22] })
    (base : Nat) (v : Value) (K : List (List UInt8)) (m : List UInt8) (u : Value) (hs : a.eval s = v) (hx : a.eval x = .slice (some ⟨w0.heap.size, 0, none⟩) 1 1)
    (hown : OwnQ y w0 base v K) (hrow : RowOff y w0 v.ownBlock u m) (hlen : K.length ≤ 1000000) (hbase : base ≤ w0.heap.size)
    (h : ∀ v' w', OwnQ y w' base v' (K ++ [m]) → Below base w0 w' → w0.grownBy w' v.ownBlock → wpList Tryd.prog ops Q rest (a.put o.dst v') w') :
    wpList Tryd.prog ops Q (o :: rest) a (w0.alloc (.cells #[u] 43)) := by
  obtain ⟨vs, h1, h2, h3⟩ := hown
  obtain ⟨i0, hi, hz0, hz1, hz2⟩ := info_parts infoRow
  refine wpList_push hgd s x 22 ho base 43 i0 (.slice none 0 0) 24 Tryd.underlying22 hi hz0 hz1 hz2 rfl v K.length vs u hs hx (by obtain ⟨_, _, rfl, _⟩ := hrow; rfl) h2 (by omega) (by unfold maxLen; omega) hbase ?_
  intro v' w' g1 g2
  have hnew : ∀ b, b < w0.heap.size → v.ownBlock ≠ some b → v'.ownBlock ≠ some b := fun b hb hv => by
    rcases g2.2 with e | e
    · rw [e]; exact hv
    · obtain ⟨k, hk1, hk2⟩ := e
      rw [hk1]
      intro hh
      have := Option.some.inj hh
      omega
  have hmove : ∀ (u : Value) (mm : List UInt8), RowOff y w0 v.ownBlock u mm → RowOff y w' v'.ownBlock u mm := fun u mm hh => by
    obtain ⟨a, c, e1, e2, e3, e4, e5, e6⟩ := hh
    exact ⟨a, c, e1, e2, e3, e4, e5.apart g2.1 (fun ad ha => (e6 ad ha).1), fun ad ha => ⟨hnew _ (e6 ad ha).2.1 (e6 ad ha).1, Nat.lt_of_lt_of_le (e6 ad ha).2.1 g2.1.size, (e6 ad ha).2.2⟩⟩
  refine h v' w' ⟨vs ++ [u], by simp [h1], by rw [List.length_append]; exact g1, fun i u' mm hu hm => ?_⟩ (g2.below h2 hbase) g2.1
  rcases Nat.lt_or_ge i vs.length with hl | hl
  · rw [List.getElem?_append_left hl] at hu
    rw [List.getElem?_append_left (by rw [← h1]; exact hl)] at hm
    exact hmove _ _ (h3 i u' mm hu hm)
  · rw [List.getElem?_append_right hl] at hu
    rw [List.getElem?_append_right (by rw [← h1]; exact hl), ← h1] at hm
    have h0 : i - vs.length = 0 := by
      rcases Nat.eq_zero_or_pos (i - vs.length) with h0 | h0
      · exact h0
      · rw [List.getElem?_eq_none (by simp; omega)] at hu; cases hu
    rw [h0] at hu hm
    obtain rfl := Option.some.inj hu
    obtain rfl := Option.some.inj hm
    exact hmove _ _ hrow
/-- A row of bytes of the call's own, made after v. -/
theorem own_off {x : Nat} {w0 w : World} {base : Nat} {v u : Value} {K : List (List UInt8)} {m : List UInt8} (hu : OwnB w w0.heap.size u m) (hv : OwnQ x w0 base v K) (hx : x < w0.heap.size) : RowOff x w v.ownBlock u m := by
  obtain ⟨A, c, e1, e2, e3, e4, e5⟩ := own_form hu
  have hl : m.length = m.length := rfl
  refine ⟨A, c, e1, e2, e3, e4, e5, fun ad ha => ?_⟩
  subst e1
  subst ha
  obtain ⟨vs, g1, g2, g3⟩ := hv
  rcases hu.2 with ⟨hn, _⟩ | ⟨g, cap, cur, hvv, hg, hh, _⟩
  · cases hn
  · cases hvv
    refine ⟨fun hh2 => ?_, (Array.getElem?_eq_some_iff.1 hh).1, fun hx2 => ?_⟩
    · have : g < w0.heap.size := (g2.lt g hh2).2
      omega
    · have : g = x := hx2
      omega
theorem OwnQ.only {x : Nat} {w w' : World} {base : Nat} {v : Value} {K : List (List UInt8)} (h : OwnQ x w base v K) (ho : Only x w w') (hx : x < base) : OwnQ x w' base v K := by
  obtain ⟨vs, h1, h2, h3⟩ := h
  have hg : w.grownBy w' (some x) := ⟨ho.os, ho.tape, ho.output, Nat.le_of_eq ho.size.symm, fun k _ hk => ho.block k (fun e => hk (by rw [e]))⟩
  refine ⟨vs, h1, ⟨h2.1, ?_⟩, fun i u m hu hm => ?_⟩
  · rcases h2.2 with hn | ⟨g, cap, cur, hv, hgb, hh, rest⟩
    · exact .inl hn
    · exact .inr ⟨g, cap, cur, hv, hgb, by rw [hg.block g (Array.getElem?_eq_some_iff.1 hh).1 (fun e => by have := Option.some.inj e; omega)]; exact hh, rest⟩
  · obtain ⟨a, c, e1, e2, e3, e4, e5, e6⟩ := h3 i u m hu hm
    exact ⟨a, c, e1, e2, e3, e4, e5.apart hg (fun ad ha hh => (e6 ad ha).2.2 (Option.some.inj hh).symm), fun ad ha => ⟨(e6 ad ha).1, Nat.lt_of_lt_of_le (e6 ad ha).2.1 hg.size, (e6 ad ha).2.2⟩⟩

theorem size_made : (Tryd.prog.info? 35).map (·.size) = some 2 := by kernel_rfl
theorem row_made : ∃ d, Tryd.prog.underlying 35 = some d ∧ d.isRow = true := ⟨_, Tryd.underlying35, rfl⟩
theorem made_one (A : Option Addr) (n c : Nat) (z : Int) : ∀ u ∈ [Value.slice A n c, Value.int .i64 z], u.oneCell' = true := by
  intro u hu
  simp only [List.mem_cons, List.not_mem_nil, or_false] at hu
  rcases hu with rfl | rfl <;> rfl
/-- A matrix, or an error. -/
def MadeEnd (w : World) (T : List (List UInt8)) (E : Int) (e : Ending) (w' : World) : Prop :=
  (∃ A c, e = .returned (.agg #[.slice A T.length c, .int .i64 E]) ∧ T.length ≤ c ∧ c ≤ maxLen ∧ (A = none → c = 0) ∧ Mat w' w'.heap.size A T) ∧ Below w.heap.size w w'

set_option maxRecDepth 100000 in
set_option maxHeartbeats 2000000 in
theorem refTranspose_any {B : Nat} (M : List (List UInt8)) (A : Option Addr) (c : Nat) (w : World) (h : Mat w B A M) (hB : B ≤ w.heap.size) (hl : M.length ≤ 1000000) :
    Calls Tryd.prog 24 #[.slice A M.length c] w (MadeEnd w (if chk M = 0 then tr M else []) (chk M)) := by
  obtain ⟨dd, hdu, hdr⟩ := row_made
  have hdu' := Lib.hid hdu
  obtain ⟨W1, hW1⟩ : ∃ W1, W1 = w.alloc (.cells #[.slice none 0 0, .int .i64 0] 35) := ⟨_, rfl⟩
  have hB1 : Hid (Below w.heap.size w W1) := by show Below _ _ _; rw [hW1]; exact (Below.refl _ _).alloc (Nat.le_refl _) _
  have hR1 : Hid (Blk W1 w.heap.size [.slice none 0 0, .int .i64 0] 35) := by show Blk _ _ _ _; rw [hW1]; exact Blk.new _ [_, _] _
  have hs1 : Hid (W1.heap.size = w.heap.size + 1) := by show _ = _; rw [hW1]; simp
  have hW1' := Lib.hid hW1
  have hM1 : Hid (Mat W1 B A M) := h.below (hB1.out.mono hB)
  have hBs : Hid (B ≤ w.heap.size) := hB
  have CK := Lib.hid (refCheck_any M A c W1 hM1.out (by omega))
  have hlh := Lib.hid hl
  obtain ⟨r, hr0⟩ : ∃ r, r = chk M := ⟨_, rfl⟩
  have hok : Hid (r = 0 → Ok M) := fun e => ok_of (by rw [← hr0]; exact e)
  rw [← hr0] at CK ⊢
  obtain ⟨R, hR0⟩ : ∃ R, R = if r = 0 then tr M else [] := ⟨_, rfl⟩
  rw [← hR0]
  have hRh := Lib.hid hR0
  obtain ⟨N, hN0⟩ : ∃ N, N = M.length := ⟨_, rfl⟩
  have hN := Lib.hid hN0
  have hla : Hid (∀ X : Nat, X = M.length → X = N) := fun X hX => hX.trans hN0.symm
  rw [← hN0] at CK ⊢
  clear hdu hW1 h hB hl hr0 hN0 hR0
  go_enter Tryd.func24, Tryd.ntmps24
  go_wp2_with fail
  generalize hg : w.alloc _ = Wg
  have hgW : W1 = Wg := by rw [← hg, hW1'.out]
  clear hg hW1'
  subst hgW
  refine CK.out.mono ?_
  rintro e w2 ⟨rfl, n2, rfl⟩
  have hB2 : Hid (Below w.heap.size w (W1.drewN n2)) := below_drewN hB1.out n2
  have hR2 : Hid (Blk (W1.drewN n2) w.heap.size [.slice none 0 0, .int .i64 0] 35) := hR1.out
  have hs2 : Hid ((W1.drewN n2).heap.size = w.heap.size + 1) := hs1.out
  have hM2 : Hid (Mat (W1.drewN n2) B A M) := hM1.out
  clear CK hB1 hR1 hs1 hM1
  generalize W1.drewN n2 = w2 at hB2 hR2 hs2 hM2 ⊢
  by_cases h0 : r = 0
  · have hok' := Lib.hid (hok.out h0)
    subst h0
    have CC : Hid (∀ W, Below w2.heap.size w2 W → Calls Tryd.prog 37 #[.slice A N c] W fun e w' => e = .returned (.int .i64 (cols M)) ∧ w' = W) := fun W hW => by
      rw [hN.out]
      exact refColumns_any M A c W (hM2.out.below (hW.mono (by rw [hs2.out]; have := hBs.out; omega)))
    have CL : Hid (∀ W k, Below w2.heap.size w2 W → k < cols M → Calls Tryd.prog 75 #[.slice A N c, .int .i64 k] W fun e w' => ∃ v, e = .returned v ∧ OwnB w' W.heap.size v (colF M k) ∧ Below W.heap.size W w') := fun W k hW hk => by
      rw [hN.out]
      exact column_any M A c k (cols M) W (hM2.out.below (hW.mono (by rw [hs2.out]; have := hBs.out; omega))) (by have := hW.size; rw [hs2.out] at this; have := hBs.out; omega) (fun m hm => hok'.out.same m hm) hk (by have := hlh.out; omega)
    have hcl : Hid (cols M ≤ 1000000) := by have := hok'.out.cols_le; show _ ≤ _; omega
    have htl : Hid ((tr M).length = cols M) := matF_len _ _ _
    have htg : Hid (∀ k, k < cols M → (tr M)[k]? = some (colF M k)) := fun k hk => matF_get _ hk
    have hRT : R = tr M := hRh.out.trans (if_pos rfl)
    rw [← hRT] at htl htg
    clear hRT hRh
    generalize colF M = cf at CL htg
    generalize cols M = q at CC CL htl hcl htg
    go_wp2_with fail
    have hq6 : q ≤ 1000000 := hcl.out
    go_loopw [4, 5] (fun v i wr => ∃ k : Nat, k ≤ q ∧ i = .int .i64 k ∧ OwnQ w.heap.size wr w2.heap.size v (R.take k) ∧ Below w2.heap.size w2 wr) (fun _ i _ => q - (intOf i).toNat)
    case atStart => exact ⟨0, by omega, rfl, ownQ_nil _ _ _, Below.refl _ _⟩
    case round =>
      obtain ⟨k, hk, rfl, ho, hbw⟩ := hrel
      have C1 := Lib.hid (CC.out _ hbw)
      go_wp2_with fail
      refine C1.out.mono ?_
      rintro e w3 ⟨rfl, rfl⟩
      by_cases hlt : k < q
      · have t : (k : Int) < (q : Int) := by omega
        have L1 := Lib.hid (CL.out _ k hbw hlt)
        have htk := Lib.hid (take_snoc (htg.out k hlt))
        have hb' := Lib.hid hbw
        have ho' := Lib.hid ho
        clear C1 hbw ho
        go_wp2_with fail
        refine L1.out.mono ?_
        rintro e w4 ⟨u, rfl, hu, hb4⟩
        have hoff := own_off hu ho'.out (by have := hb'.out.size; rw [hs2.out] at this; omega)
        have ho4 := ho'.out.keep hb4
        have hB4 := Lib.hid (hb'.out.trans (hb4.mono hb'.out.size))
        have hln : (R.take k).length ≤ 1000000 := by rw [List.length_take]; have := hcl.out; omega
        have hsz4 : w2.heap.size ≤ w4.heap.size := hB4.out.size
        obtain ⟨Au, cu, rfl, _⟩ := hoff
        have hoff2 := own_off hu ho'.out (by have := hb'.out.size; rw [hs2.out] at this; omega)
        clear hu hb4
        go_wp2_with (at_builtin; go_must (refine push_q rfl _ _ rfl w2.heap.size _ (R.take k) _ _ rfl rfl ho4 hoff2 hln hsz4 ?_); intro v' w5 ho5 hb5 hg5)
        go_roundw
        case rel => exact ⟨k + 1, by omega, by go_num, by rw [htk.out]; exact ho5, hB4.out.trans hb5⟩
        case measure => simp [intOf]; omega
      · have t : ¬ (k : Int) < (q : Int) := by omega
        have hkk : R.take k = R := List.take_of_length_le (by rw [htl.out]; omega)
        rw [hkk] at ho
        obtain ⟨A2, c2, rfl, g1, g2, g3, g4⟩ := ho.mat
        have hR3 : Hid (Blk w3 w.heap.size [.slice none 0 0, .int .i64 0] 35) := hR2.out.below hbw hR2.out.lt
        have hbw' := Lib.hid hbw
        have g4' := Lib.hid g4
        have hm : Hid (OwnQ w.heap.size w3 w2.heap.size (.slice A2 R.length c2) R) := ho
        clear hbw g4 ho
        go_wp2_with (refine wpList_row_store rfl 35 _ _ rfl [.slice A2 R.length c2, .int .i64 0] rfl rfl hR3.out size_made rfl (made_one _ _ _ _) ?_; intro w4 hw4 ho4)
        refine bodyPost_ret (ret_blk rfl _ w4 (g := w.heap.size) rfl hw4.out dd hdu'.out hdr size_made) rfl ⟨⟨A2, c2, rfl, g1, g2, g3, ?_⟩, (hB2.out.trans (hbw'.out.mono hB2.out.size)).trans (ho4.below (Nat.le_refl _))⟩
        obtain ⟨A3, c3, e3, _, _, _, g5⟩ := (hm.out.only ho4 (by rw [hs2.out]; omega)).mat
        cases e3
        exact g5
  · have hRT : R = [] := hRh.out.trans (if_neg h0)
    subst hRT
    have t : (r != 0) = true := by simpa using h0
    clear h0
    go_wp2_with (refine wpList_row_store rfl 35 _ _ rfl [.slice none 0 0, .int .i64 r] rfl rfl hR2.out size_made rfl (made_one _ _ _ _) ?_; intro w4 hw4 ho4)
    exact bodyPost_ret (ret_blk rfl _ w4 (g := w.heap.size) rfl hw4.out dd hdu'.out hdr size_made) rfl ⟨⟨none, 0, rfl, by simp, by unfold maxLen; decide, fun _ => rfl, Mat.nil⟩, hB2.out.trans (ho4.below (Nat.le_refl _))⟩
end Go.Proofs.YtfbdhcpclccikaaDoor

namespace Go.Proofs.YtfbdhcpclccikaaDoor
set_option linter.unusedVariables false
set_option linter.unusedSimpArgs false
open Go.RowKit

/-- A row that was made after a block. -/
def NewRow (base : Nat) (w : World) (u : Value) (m : List UInt8) : Prop :=
  ∃ a c, u = .slice a m.length c ∧ m.length ≤ c ∧ c ≤ maxLen ∧ (a = none → c = 0) ∧ Rds w w.heap.size a (m.map bv) ∧ ∀ ad, a = some ad → base ≤ ad.block ∧ ad.block < w.heap.size
theorem NewRow.of {base : Nat} {w : World} {u : Value} {m : List UInt8} (hu : OwnB w base u m) : NewRow base w u m := by
  obtain ⟨A, c, e1, e2, e3, e4, e5⟩ := own_form hu
  refine ⟨A, c, e1, e2, e3, e4, e5, fun ad ha => ?_⟩
  subst e1
  subst ha
  rcases hu.2 with ⟨hn, _⟩ | ⟨g, cap, cur, hvv, hg, hh, _⟩
  · cases hn
  · cases hvv
    exact ⟨hg, (Array.getElem?_eq_some_iff.1 hh).1⟩
theorem NewRow.lower {base base' : Nat} {w : World} {u : Value} {m : List UInt8} (h : NewRow base w u m) (hb : base' ≤ base) : NewRow base' w u m := by
  obtain ⟨a, c, e1, e2, e3, e4, e5, e6⟩ := h
  exact ⟨a, c, e1, e2, e3, e4, e5, fun ad ha => ⟨Nat.le_trans hb (e6 ad ha).1, (e6 ad ha).2⟩⟩
theorem NewRow.below {base : Nat} {w w' : World} {u : Value} {m : List UInt8} (h : NewRow base w u m) (hb : Below w.heap.size w w') : NewRow base w' u m := by
  obtain ⟨a, c, e1, e2, e3, e4, e5, e6⟩ := h
  exact ⟨a, c, e1, e2, e3, e4, (e5.below hb).more hb.size, fun ad ha => ⟨(e6 ad ha).1, Nat.lt_of_lt_of_le (e6 ad ha).2 hb.size⟩⟩
theorem NewRow.off {x : Nat} {w0 w : World} {base : Nat} {v u : Value} {K : List (List UInt8)} {m : List UInt8} (hu : NewRow w0.heap.size w u m) (hv : OwnQ x w0 base v K) (hx : x < w0.heap.size) : RowOff x w v.ownBlock u m := by
  obtain ⟨a, c, e1, e2, e3, e4, e5, e6⟩ := hu
  obtain ⟨vs, g1, g2, g3⟩ := hv
  refine ⟨a, c, e1, e2, e3, e4, e5, fun ad ha => ⟨fun hh => ?_, (e6 ad ha).2, fun hh => ?_⟩⟩
  · have := (g2.lt _ hh).2; have := (e6 ad ha).1; omega
  · have := (e6 ad ha).1; omega

/-- The sum of multiples of the first k rows, one after the other. -/
def comR (coef : List UInt8) (rows : List (List UInt8)) (n k : Nat) : List UInt8 := ((List.zip coef rows).take k).foldl (fun s p => addR p.1 p.2 s) (List.replicate n 0)
theorem comR_len (coef : List UInt8) (rows : List (List UInt8)) (n k : Nat) : (comR coef rows n k).length = n := by
  unfold comR
  have : ∀ (L : List (UInt8 × List UInt8)) (s : List UInt8), s.length = n → (L.foldl (fun s p => addR p.1 p.2 s) s).length = n := fun L => by
    induction L with
    | nil => exact fun s hs => hs
    | cons p L ih => exact fun s hs => ih _ (by rw [addR_len]; exact hs)
  exact this _ _ (by simp)
theorem comR_next {coef : List UInt8} {rows : List (List UInt8)} {n k : Nat} {x : UInt8} {p : List UInt8} (hx : coef[k]? = some x) (hp : rows[k]? = some p) : comR coef rows n (k + 1) = addR x p (comR coef rows n k) := by
  have hz : (List.zip coef rows)[k]? = some (x, p) := by rw [List.getElem?_zip_eq_some]; exact ⟨hx, hp⟩
  unfold comR
  rw [take_snoc hz, List.foldl_append]
  rfl

set_option maxRecDepth 100000 in
set_option maxHeartbeats 2000000 in
theorem refCombine_any {Bc Bm : Nat} (coef : List UInt8) (M : List (List UInt8)) (n q : Nat) (Ac A : Option Addr) (cc c cl : Nat) (w : World) (hcf : Rds w Bc Ac (coef.map bv)) (h : Mat w Bm A M) (hBc : Bc ≤ w.heap.size) (hBm : Bm ≤ w.heap.size) (hcl : cl = coef.length) (hq : q = M.length) (hle : M.length ≤ coef.length) (hr : Rect M n) (hn : n ≤ 1000000) (hM : M.length ≤ 1000000) :
    Calls Tryd.prog 41 #[.slice Ac cl cc, .slice A q c, .int .i64 n] w fun e w' => ∃ v, e = .returned v ∧ NewRow w.heap.size w' v (comR coef M n M.length) ∧ Below w.heap.size w w' := by
  obtain ⟨W1, hW1⟩ : ∃ W1, W1 = w.alloc (.cells (madeCells #[.int .u8 0] n) 5) := ⟨_, rfl⟩
  have hB1 : Hid (Below w.heap.size w W1) := by show Below _ _ _; rw [hW1]; exact (Below.refl _ _).alloc (Nat.le_refl _) _
  have hZ1 : Hid (Blk W1 w.heap.size ((List.replicate n (0 : UInt8)).map bv) 5) := by
    show Blk _ _ _ _
    rw [hW1, made_zeros, zeros_row]
    exact Blk.new _ _ _
  have hmk := run_make_row' (P := Tryd.prog) 43 5 (.int .u8 0) 1 Tryd.underlying43 infoByte rfl .i64 .i64 n (by omega) (by omega) w
  rw [← hW1] at hmk
  have hS : Hid (NewRow w.heap.size W1 (.slice (some ⟨w.heap.size, 0, none⟩) n n) (comR coef M n 0)) := by
    refine ⟨some ⟨w.heap.size, 0, none⟩, n, by rw [comR_len], by rw [comR_len]; exact Nat.le_refl _, by unfold maxLen; omega, (fun hh => by cases hh), ?_, fun ad ha => by cases ha; exact ⟨Nat.le_refl _, hZ1.out.lt⟩⟩
    have := hZ1.out.rds 0 n
    rw [List.drop_zero, List.take_of_length_le (by simp)] at this
    exact this
  have hC := Lib.hid hcf
  have hM' := Lib.hid h
  have hN : Hid (Bc ≤ w.heap.size ∧ Bm ≤ w.heap.size ∧ cl = coef.length ∧ q = M.length ∧ M.length ≤ coef.length) := ⟨hBc, hBm, hcl, hq, hle⟩
  have hr' := Lib.hid hr
  have tcq : q ≤ cl := by omega
  have tq : q ≤ 1000000 := by omega
  rw [← hq]
  obtain ⟨G, hG0⟩ : ∃ G : Nat → List UInt8, G = comR coef M n := ⟨_, rfl⟩
  have hGl : Hid (∀ k, (G k).length = n) := fun k => by rw [hG0]; exact comR_len _ _ _ _
  have hGn : Hid (∀ k x p, coef[k]? = some x → M[k]? = some p → G (k + 1) = addR x p (G k)) := fun k x p h1 h2 => by rw [hG0]; exact comR_next h1 h2
  rw [← hG0] at hS ⊢
  clear hW1 hZ1 hcf h hBc hBm hcl hq hle hr hM hG0
  go_enter Tryd.func41, Tryd.ntmps41
  go_wp2_with fail
  go_loopw [7, 8] (fun v i wr => ∃ k : Nat, k ≤ q ∧ i = .int .i64 k ∧ NewRow w.heap.size wr v (G k) ∧ Below w.heap.size w wr) (fun _ i _ => q - (intOf i).toNat)
  case atStart => exact ⟨0, by omega, rfl, hS.out, hB1.out⟩
  case round =>
    obtain ⟨k, hk, rfl, ho, hbw⟩ := hrel
    obtain ⟨av, cv, rfl, o2, o3, o4, o5, o6⟩ := ho
    by_cases hlt : k < q
    · have t : (k : Int) < (q : Int) := by omega
      have t' : (k : Int) < (cl : Int) := by omega
      have t0 : 0 ≤ (k : Int) := by omega
      obtain ⟨x, hx⟩ : ∃ x, coef[k]? = some x := ⟨_, List.getElem?_eq_getElem (by have := hN.out; omega)⟩
      obtain ⟨p, hp⟩ : ∃ x, M[k]? = some x := ⟨_, List.getElem?_eq_getElem (by have := hN.out; omega)⟩
      have hpl := hr'.out.at hp
      have hCx : Hid (∀ z : ExtOf wr.drew, Below w.heap.size w z.world) := fun z => (hbw.drew).trans (z.ext.mono (by have := hbw.size; simpa using this))
      obtain ⟨ad, rfl, _, hca⟩ := hC.out.look (k := k) (u := bv x) (by rw [List.getElem?_map, hx]; rfl)
      obtain ⟨bd, vb, rfl, _, hcb, ab, cb, rfl, b1, b2, b3, b4⟩ := hM'.out.at hp
      have q1 : ∀ z : ExtOf wr.drew, z.world.cell? (ad.add k) = some (.int .u8 (x.toNat : Int)) := fun z => by
        obtain ⟨ad', e', _, hc'⟩ := (hC.out.below ((hCx.out z).mono hN.out.1)).look (k := k) (u := bv x) (by rw [List.getElem?_map, hx]; rfl)
        cases e'
        exact hc'
      have q2 : ∀ z : ExtOf wr.drew, z.world.cell? (bd.add k) = some (.slice ab p.length cb) := fun z => by
        have hbd : bd.block < w.heap.size := by have := hN.out; omega
        rw [(hCx.out z).cell (p := bd.add k) (by rw [add_block]; exact hbd)]
        exact hcb
      have SS := Lib.hid (refSum5_any (Ba := wr.heap.size) (Bb := Bm) (G k) p x av ab cv cb n p.length wr.drew o5 (b4.below (hbw.drew.mono hN.out.2.1)) (Nat.le_refl _) (Nat.le_trans hN.out.2.1 hbw.size) (hGl.out k).symm rfl (by rw [hGl.out k, hpl]; exact Nat.le_refl _) (by rw [hGl.out k]; omega))
      have hnx := Lib.hid (hGn.out k x p hx hp)
      have hbw' := Lib.hid hbw
      have hgl := Lib.hid (hGl.out k)
      rw [hgl.out]
      clear hca hcb o5 o6 o2 o3 o4 b1 b2 b3 b4 hx hp hpl hCx hbw
      unfold bv at SS
      go_wp2_with fail
      refine wp_region_planL 99 [(true, 0), (true, 1), (true, 2), (true, 3), (true, 4), (true, 5), (true, 6), (true, 7), (true, 8), (false, 9), (true, 10)] (by kernel_rfl) (by decide) (by kernel_rfl) (by kernel_rfl) (by kernel_rfl) (by decide) (by intro c a d v w h; cases d <;> exact h) ?_
      change wpPlanL _ _ _ _ _ _ wr.drew
      iterate 9 (refine wpPlanL_plain rfl (fun K hK => ?_); go_simp; refine hK _ ?_; clear hK K)
      clear q1 q2
      refine wpPlanL_call rfl (fun K hK => ?_)
      go_wp2_with fail
      refine SS.out.mono ?_
      rintro e w3 ⟨u, rfl, hu, hb3⟩
      have hu3 := Lib.hid ((NewRow.of hu).lower (show w.heap.size ≤ wr.drew.heap.size from hbw'.out.size))
      clear hu
      go_wp2_with fail
      refine planPostL_normal ⟨.inr hb3, hK _ _ ?_⟩
      clear hK K
      iterate 1 (refine wpPlanL_plain rfl (fun K hK => ?_); go_simp; refine hK _ ?_; clear hK K)
      refine wpPlanL_nil ?_
      have hB3 := Lib.hid (hbw'.out.drew.trans (Below.mono (show Below wr.drew.heap.size wr.drew w3 from ⟨hb3.os, hb3.tape, hb3.output, hb3.size, hb3.block⟩) hbw'.out.size))
      clear hb3
      go_wp2_with fail
      go_roundw
      case rel => exact ⟨k + 1, by omega, by go_num, by rw [hnx.out]; exact hu3.out, hB3.out⟩
      case measure => simp [intOf]; omega
    · have t : ¬ (k : Int) < (q : Int) := by omega
      obtain rfl : k = q := by omega
      have hfin : Hid (NewRow w.heap.size wr (.slice av (G k).length cv) (G k)) := ⟨av, cv, rfl, o2, o3, o4, o5, o6⟩
      clear o2 o3 o4 o5 o6
      go_wp2_with fail
      go_ret
      exact ⟨_, by first | rfl | (go_simp; done) | (go_simp; rfl), hfin.out, hbw⟩
end Go.Proofs.YtfbdhcpclccikaaDoor
