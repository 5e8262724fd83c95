/-
  Stage 7, the mathematics: what is lost decides; groups without an error. No Go in sight. Stage 7: the pieces of a chunk (maths), and the contract of encode. Contracts of stage 7: (*stairs).results. Stage 7: what a set of pieces says of a chunk (maths); the contract of solve's closure.
-/
import Derived.Test.YtgajlgnniidgmaaDoorCe1
import Derived.Test.YtgajlgnniidgmaaDoorCd2
import Derived.Test.YtgajlgnniidgmaaDoorCd1
import Derived.Test.YtgajlgnniidgmaaDoorGfw
namespace Go.Proofs.YtgajlgnniidgmaaDoor
set_option linter.unusedVariables false
set_option linter.unusedSimpArgs false

theorem grp1_rng {D : Nat} : ∀ (g : List Int) (used : Nat) (last : Int) {u : Nat}, grp1 D used last g = some u → -1 ≤ last → ∀ v ∈ g, 0 ≤ v ∧ v < (D : Int)
  | [], _, _, _, _, _, v, hv => by cases hv
  | i :: g, used, last, u, h, hl, v, hv => by
    unfold grp1 at h
    by_cases c : i ≤ last ∨ i ≥ (D : Int) ∨ used.testBit i.toNat = true
    · rw [if_pos c] at h; cases h
    · rw [if_neg c] at h
      have hi : ¬ i ≤ last ∧ ¬ i ≥ (D : Int) := ⟨fun hh => c (.inl hh), fun hh => c (.inr (.inl hh))⟩
      rcases List.mem_cons.1 hv with rfl | hv
      · omega
      · exact grp1_rng g _ _ h (by omega) v hv
theorem grpE_rng {D : Nat} : ∀ (Gs : List (List Int)) (used : Nat), grpE D used Gs = 0 → ∀ g ∈ Gs, ∀ v ∈ g, 0 ≤ v ∧ v < (D : Int)
  | [], _, _, g, hg => by cases hg
  | g0 :: Gs, used, h, g, hg => by
    unfold grpE at h
    by_cases c : g0 = []
    · rw [if_pos c] at h; cases h
    · rw [if_neg c] at h
      cases e : grp1 D used (-1) g0 with
      | none => rw [e] at h; cases h
      | some u =>
        rw [e] at h
        rcases List.mem_cons.1 hg with rfl | hg
        · exact grp1_rng _ _ _ e (by omega)
        · exact grpE_rng Gs u h g hg
/-- The rows of the pieces in a set. -/
def pcL (D : Nat) (Gs : List (List Int)) (s cnt : Nat) : List (List UInt8) := ((List.range cnt).filter fun k => s.testBit k).map fun k => crow D Gs k D
theorem pcL_mem {D : Nat} {Gs : List (List Int)} {s cnt : Nat} {r : List UInt8} : r ∈ pcL D Gs s cnt ↔ ∃ k, k < cnt ∧ s.testBit k = true ∧ r = crow D Gs k D := by
  unfold pcL
  rw [List.mem_map]
  constructor
  · rintro ⟨k, hk, rfl⟩
    obtain ⟨h1, h2⟩ := List.mem_filter.1 hk
    exact ⟨k, List.mem_range.1 h1, h2, rfl⟩
  · rintro ⟨k, h1, h2, rfl⟩
    exact ⟨k, List.mem_filter.2 ⟨List.mem_range.2 h1, h2⟩, rfl⟩
theorem crow_at (D : Nat) (Gs : List (List Int)) (k : Nat) {m i : Nat} (h : i < m) : (crow D Gs k m).getD i 0 = cr D Gs k i := by
  unfold crow
  rw [List.getD_eq_getElem?_getD, List.getElem?_map, List.getElem?_range h]
  rfl
theorem el_par {D N k i : Nat} {Gs : List (List Int)} (hk : k < N) (hi : i < D) : el (PM (par D Gs) N) k i = cr D Gs (D + k) i := by
  rw [el_get (PM_get (par D Gs) hk), par_cr, crow_at D Gs _ hi]
theorem xsum_mis (s : Nat) (f : Nat → UInt8) : ∀ D, xsum D (fun i => if s.testBit i then 0 else f i) = xsum (misL s D).length fun j => f ((misL s D).getD j 0)
  | 0 => rfl
  | D + 1 => by
    rw [xsum_succ, xsum_mis s f D]
    cases h : s.testBit D with
    | true => rw [misL_no h]; simp
    | false =>
      rw [misL_yes h, List.length_append]
      show _ = xsum ((misL s D).length + 1) _
      rw [xsum_succ]
      have e1 : ∀ j, j < (misL s D).length → (misL s D ++ [D]).getD j 0 = (misL s D).getD j 0 := fun j hj => by
        rw [List.getD_eq_getElem?_getD, List.getElem?_append_left hj, List.getD_eq_getElem?_getD]
      have e2 : (misL s D ++ [D]).getD (misL s D).length 0 = D := by
        rw [List.getD_eq_getElem?_getD, List.getElem?_append_right (Nat.le_refl _), Nat.sub_self]; rfl
      rw [e2]
      congr 1
      · exact xsum_congr fun j hj => by rw [e1 j hj]
theorem mis_at {s : Nat} : ∀ {D j i : Nat}, (misL s D)[j]? = some i → i < D ∧ s.testBit i = false ∧ (misL s i).length = j
  | 0, j, i, h => by unfold misL at h; simp at h
  | D + 1, j, i, h => by
    cases hb : s.testBit D with
    | true =>
      rw [misL_no hb] at h
      obtain ⟨h1, h2, h3⟩ := mis_at h
      exact ⟨by omega, h2, h3⟩
    | false =>
      rw [misL_yes hb] at h
      rcases Nat.lt_or_ge j (misL s D).length with hj | hj
      · rw [List.getElem?_append_left hj] at h
        obtain ⟨h1, h2, h3⟩ := mis_at h
        exact ⟨by omega, h2, h3⟩
      · rw [List.getElem?_append_right hj] at h
        rcases Nat.eq_zero_or_pos (j - (misL s D).length) with h0 | h0
        · rw [h0] at h
          obtain rfl := Option.some.inj h
          exact ⟨by omega, hb, by omega⟩
        · rw [List.getElem?_eq_none (by simp; omega)] at h; cases h
theorem mis_of {s : Nat} : ∀ {D i : Nat}, i < D → s.testBit i = false → (misL s D)[(misL s i).length]? = some i
  | 0, i, h, _ => by omega
  | D + 1, i, h, hb => by
    by_cases e : i = D
    · subst e
      rw [misL_yes hb, List.getElem?_append_right (Nat.le_refl _), Nat.sub_self]
      rfl
    · have ih := mis_of (D := D) (by omega) hb
      cases hd : s.testBit D with
      | true => rw [misL_no hd]; exact ih
      | false => rw [misL_yes hd, List.getElem?_append_left (List.getElem?_eq_some_iff.1 ih).1]; exact ih
theorem unit_dot {D k : Nat} {Gs : List (List Int)} (hk : k < D) (X : Nat → UInt8) : dot7 D (rfn (crow D Gs k D)) X = X k := by
  unfold dot7
  rw [xsum_one (a := k) _ hk fun j hj hne => by
    show Gf.mul ((crow D Gs k D).getD j 0) _ = 0
    rw [crow_at D Gs k hj]; unfold cr; rw [if_pos hk, if_neg hne, Gf.zero_mul]]
  show Gf.mul ((crow D Gs k D).getD k 0) _ = _
  rw [crow_at D Gs k hk]; unfold cr; rw [if_pos hk, if_pos rfl, Gf.one_mul]
theorem eqn_dot {D N k s : Nat} {Gs : List (List Int)} {su : Nat → List UInt8} (hk : k < N) (x : Nat → UInt8) : dot7 (misL s D).length (rfn (eqn (PM (par D Gs) N) (misL s D) su k)) x = xsum (misL s D).length fun j => Gf.mul (cr D Gs (D + k) ((misL s D).getD j 0)) (x j) := by
  refine xsum_congr fun j hj => ?_
  obtain ⟨i, hi⟩ : ∃ i, (misL s D)[j]? = some i := ⟨_, List.getElem?_eq_getElem hj⟩
  have hiD := (mis_at hi).1
  have e : (misL s D).getD j 0 = i := by rw [List.getD_eq_getElem?_getD, hi]; rfl
  rw [e]
  congr 1
  show (eqn _ _ su k).getD j 0 = _
  unfold eqn
  rw [List.getD_eq_getElem?_getD, List.getElem?_append_left (by rw [List.length_map]; exact hj), List.getElem?_map, hi]
  exact el_par hk hiD
/-- A set determines the chunk exactly if its parities determine the lost data pieces. -/
theorem lost_full {D N s : Nat} {Gs : List (List Int)} {su : Nat → List UInt8} : Full7 (eqL (PM (par D Gs) N) (misL s D) su (s / 2 ^ D) N 0) (misL s D).length ↔ Full7 (pcL D Gs s (D + N)) D := by
  constructor
  · intro h X hX
    have hin : ∀ i, i < D → s.testBit i = true → X i = 0 := fun i hi hb => by
      rw [← unit_dot (Gs := Gs) hi X]
      exact hX _ (pcL_mem.2 ⟨i, by omega, hb, rfl⟩)
    have hx := h (fun j => X ((misL s D).getD j 0)) (fun r hr => by
      obtain ⟨t, _, ht, hb, rfl⟩ := eqL_mem.1 hr
      rw [eqn_dot ht, ← xsum_mis s (fun i => Gf.mul (cr D Gs (D + t) i) (X i)) D]
      have := hX _ (pcL_mem.2 ⟨D + t, by omega, by rw [Nat.testBit_div_two_pow] at hb; rw [Nat.add_comm]; exact hb, rfl⟩)
      refine Eq.trans (xsum_congr fun i hi => ?_) this
      show _ = Gf.mul ((crow D Gs (D + t) D).getD i 0) (X i)
      rw [crow_at D Gs _ hi]
      by_cases hb : s.testBit i = true
      · simp only [if_pos hb, hin i hi hb, Gf.mul_zero]
      · simp only [if_neg hb])
    intro i hi
    cases hb : s.testBit i with
    | true => exact hin i hi hb
    | false =>
      have h1 := mis_of hi hb
      have := hx (misL s i).length (List.getElem?_eq_some_iff.1 h1).1
      rw [List.getD_eq_getElem?_getD, h1] at this
      exact this
  · intro h x hx
    have hX := h (fun i => if s.testBit i then 0 else x (misL s i).length) (fun r hr => by
      obtain ⟨k, hk, hb, rfl⟩ := pcL_mem.1 hr
      by_cases hkD : k < D
      · rw [unit_dot hkD, if_pos hb]
      · obtain ⟨t, rfl⟩ : ∃ t, k = D + t := ⟨k - D, by omega⟩
        have := hx _ (eqL_mem.2 ⟨t, by omega, by omega, by rw [Nat.testBit_div_two_pow, Nat.add_comm]; exact hb, rfl⟩)
        rw [eqn_dot (by omega)] at this
        have e2 : xsum D (fun i => if s.testBit i then 0 else Gf.mul (cr D Gs (D + t) i) (x (misL s i).length)) = dot7 D (rfn (crow D Gs (D + t) D)) fun i => if s.testBit i then 0 else x (misL s i).length := by
          refine xsum_congr fun i hi => ?_
          show _ = Gf.mul ((crow D Gs (D + t) D).getD i 0) _
          rw [crow_at D Gs _ hi]
          by_cases hb : s.testBit i = true
          · simp only [if_pos hb, Gf.mul_zero]
          · simp only [if_neg hb]
        refine Eq.trans (e2.symm.trans ((xsum_mis s (fun i => Gf.mul (cr D Gs (D + t) i) (x (misL s i).length)) D).trans (xsum_congr fun j hj => ?_))) this
        obtain ⟨i, hi⟩ : ∃ i, (misL s D)[j]? = some i := ⟨_, List.getElem?_eq_getElem hj⟩
        have e : (misL s D).getD j 0 = i := by rw [List.getD_eq_getElem?_getD, hi]; rfl
        show Gf.mul _ (x (misL s ((misL s D).getD j 0)).length) = _
        rw [e, (mis_at hi).2.2])
    intro j hj
    obtain ⟨i, hi⟩ : ∃ i, (misL s D)[j]? = some i := ⟨_, List.getElem?_eq_getElem hj⟩
    obtain ⟨h1, h2, h3⟩ := mis_at hi
    have := hX i h1
    simp only [h2, h3] at this
    exact this
/-- When a set of pieces of a code is recoverable. -/
def RecP (D : Int) (Gs : List (List Int)) (G s : Int) : Prop := chkE D Gs G = 0 ∧ 0 ≤ s ∧ s < 2 ^ (D.toNat + Gs.length + G.toNat) ∧ Full7 (pcL D.toNat Gs s.toNat (D.toNat + (Gs.length + G.toNat))) D.toNat
end Go.Proofs.YtgajlgnniidgmaaDoor

namespace Go.Proofs.YtgajlgnniidgmaaDoor
set_option linter.unusedVariables false
set_option linter.unusedSimpArgs false
open Go.RowKit

/-- How long pieces are; a chunk, filled up; a piece of a chunk that is filled up; all pieces. -/
def szP (D n : Nat) : Nat := (n + D - 1) / D
def filP (D z : Nat) (d : List UInt8) : List UInt8 := d ++ List.replicate (D * z - d.length) 0
def pce (D : Nat) (Gs : List (List Int)) (P : List UInt8) (z k : Nat) : List UInt8 := rowF (fun t => xsum D fun i => Gf.mul (cr D Gs k i) (P.getD (i * z + t) 0)) z
def encP (D : Nat) (Gs : List (List Int)) (P : List UInt8) (z cnt : Nat) : List (List UInt8) := (List.range cnt).map (pce D Gs P z)
theorem pce_len (D : Nat) (Gs : List (List Int)) (P : List UInt8) (z k : Nat) : (pce D Gs P z k).length = z := rowF_len _ _
theorem pce_at {D : Nat} {Gs : List (List Int)} {P : List UInt8} {z k t : Nat} (h : t < z) : (pce D Gs P z k).getD t 0 = xsum D fun i => Gf.mul (cr D Gs k i) (P.getD (i * z + t) 0) := by
  unfold pce
  rw [List.getD_eq_getElem?_getD, rowF_get _ h]
  rfl
theorem encP_len (D : Nat) (Gs : List (List Int)) (P : List UInt8) (z cnt : Nat) : (encP D Gs P z cnt).length = cnt := by unfold encP; simp
theorem encP_get {D : Nat} {Gs : List (List Int)} {P : List UInt8} {z cnt k : Nat} (h : k < cnt) : (encP D Gs P z cnt)[k]? = some (pce D Gs P z k) := by unfold encP; simp [h]
theorem encP_next (D : Nat) (Gs : List (List Int)) (P : List UInt8) (z k : Nat) : encP D Gs P z (k + 1) = encP D Gs P z k ++ [pce D Gs P z k] := by
  unfold encP
  rw [List.range_succ, List.map_append]; rfl
theorem encP_take {D : Nat} {Gs : List (List Int)} {P : List UInt8} {z k m : Nat} (h : m ≤ k) : (encP D Gs P z k).take m = encP D Gs P z m := by
  unfold encP
  rw [← List.map_take, List.take_range, Nat.min_eq_left h]
theorem szP_mul {D n : Nat} (h : 1 ≤ D) : n ≤ D * szP D n ∧ D * szP D n ≤ n + D - 1 := by
  unfold szP
  have h1 := Nat.div_add_mod (n + D - 1) D
  have h2 := Nat.mod_lt (n + D - 1) (show 0 < D by omega)
  omega
theorem filP_len {D z : Nat} {d : List UInt8} (h : d.length ≤ D * z) : (filP D z d).length = D * z := by
  unfold filP; rw [List.length_append, List.length_replicate]; omega
/-- A data piece is a part of the chunk. -/
theorem pce_unit {D : Nat} {Gs : List (List Int)} {P : List UInt8} {z k : Nat} (hk : k < D) (hP : P.length = D * z) : pce D Gs P z k = (P.drop (k * z)).take z := by
  have hkz : k * z + z ≤ D * z := by rw [← Nat.succ_mul]; exact Nat.mul_le_mul_right z hk
  refine row_ext (n := z) (pce_len _ _ _ _ _) (by rw [List.length_take, List.length_drop]; omega) fun t ht => ?_
  rw [pce_at ht, xsum_one (a := k) _ hk fun j hj hne => by unfold cr; rw [if_pos hk, if_neg hne, Gf.zero_mul]]
  unfold cr
  rw [if_pos hk, if_pos rfl, Gf.one_mul, List.getD_eq_getElem?_getD, List.getD_eq_getElem?_getD, List.getElem?_take, if_pos ht, List.getElem?_drop]
/-- A parity is the combination of the data pieces. -/
theorem pce_comb {D : Nat} {Gs : List (List Int)} {P : List UInt8} {z k : Nat} (hD : 1 ≤ D) : Gf.comb (crow D Gs k D) (encP D Gs P z D) = rowF (fun t => xsum D fun i => Gf.mul (cr D Gs k i) ((pce D Gs P z i).getD t 0)) z := by
  have h0 : ((encP D Gs P z D).headD []).length = z := by
    rw [List.headD_eq_head?_getD, List.head?_eq_getElem?, encP_get (by omega)]
    exact pce_len _ _ _ _ _
  unfold Gf.comb
  rw [h0]
  unfold Gf.combN rowF
  refine List.map_congr_left fun t ht => ?_
  have := combAt_sum (crow D Gs k D) (encP D Gs P z D) t D (by rw [crow_len]; exact Nat.le_refl _) (by rw [encP_len]; exact Nat.le_refl _)
  rw [List.take_of_length_le (by rw [crow_len]; exact Nat.le_refl _)] at this
  rw [this]
  refine xsum_congr fun i hi => ?_
  rw [crow_at D Gs k hi, el_get (encP_get hi)]
theorem pce_par {D : Nat} {Gs : List (List Int)} {P : List UInt8} {z k : Nat} (hD : 1 ≤ D) (hP : P.length = D * z) : Gf.comb (crow D Gs k D) (encP D Gs P z D) = pce D Gs P z k := by
  rw [pce_comb hD]
  unfold pce rowF
  refine List.map_congr_left fun t ht => xsum_congr fun i hi => ?_
  have ht' := List.mem_range.1 ht
  show Gf.mul _ ((pce D Gs P z i).getD t 0) = _
  rw [pce_unit hi hP, List.getD_eq_getElem?_getD, List.getElem?_take, if_pos ht', List.getElem?_drop, ← List.getD_eq_getElem?_getD]
theorem fit_enc {D : Nat} {Gs : List (List Int)} {P : List UInt8} {z k : Nat} (hD : 1 ≤ D) : Gf.Fit (crow D Gs k D) (encP D Gs P z D) := by
  refine ⟨by rw [crow_len, encP_len], fun x hx => ?_⟩
  obtain ⟨i, hi, rfl⟩ := List.mem_map.1 hx
  rw [pce_len, List.headD_eq_head?_getD, List.head?_eq_getElem?, encP_get (by omega)]
  exact (pce_len _ _ _ _ _).symm
/-- Texts of the call's own. -/
def OwnS (w : World) (base : Nat) (v : Value) (l : List (List UInt8)) : Prop := w.ownsRow base 9 1 v l.length (l.map sv)
theorem infoStr7 : (Tryd.prog.info? 9).map (fun i => (i.zero, i.size, i.bytes)) = some (some (.string .empty), 1, 16) := by kernel_rfl
theorem OwnS.keep {w w' : World} {base : Nat} {v : Value} {l : List (List UInt8)} (h : OwnS w base v l) (hb : Below w.heap.size w w') : OwnS w' base v l := by
  refine ⟨h.1, ?_⟩
  rcases h.2 with hn | ⟨g, cap, cur, hv, hg, hh, rest⟩
  · exact .inl hn
  · exact .inr ⟨g, cap, cur, hv, hg, by rw [hb.block g (Array.getElem?_eq_some_iff.1 hh).1]; exact hh, rest⟩
theorem OwnS.slice {w : World} {base : Nat} {v : Value} {l : List (List UInt8)} (h : OwnS w base v l) : ∃ A c, v = .slice A l.length c ∧ l.length ≤ c ∧ c ≤ maxLen ∧ (A = none → c = 0) ∧ Rds w w.heap.size A (l.map sv) := own_form h
theorem below_grownS {w0 w w' : World} {v : Value} {l : List (List UInt8)} (hb : Below w0.heap.size w0 w) (h : OwnS w w0.heap.size v l) (hg : w.grownBy w' v.ownBlock) (hs : w0.heap.size ≤ w.heap.size) : Below w0.heap.size w0 w' :=
  hb.grown hg hs fun k hk => (World.ownsRow.lt h k hk).1
theorem OwnS.up {w : World} {base base' : Nat} {v : Value} {l : List (List UInt8)} (h : OwnS w base v l) (hb : base' ≤ base) : OwnS w base' v l := by
  refine ⟨h.1, ?_⟩
  rcases h.2 with hn | ⟨g, cap, cur, hv, hg, rest⟩
  · exact .inl hn
  · exact .inr ⟨g, cap, cur, hv, Nat.le_trans hb hg, rest⟩
/-- A matrix of the call's own whose blocks have not changed. -/
theorem Om.mid {w w' : World} {base g : Nat} {bs : List Nat} {M : List (List UInt8)} {rest : List Value} (h : Om w base g bs M rest) (hs : ∀ x, base ≤ x → x < w.heap.size → w'.heap[x]? = w.heap[x]?) : Om w' base g bs M rest :=
  ⟨h.len, (hs g h.low h.out.lt).trans h.out, fun i b m hb hm => (hs b (h.lows b (List.mem_of_getElem? hb)) (h.row i b m hb hm).lt).trans (h.row i b m hb hm), h.low, h.lows, h.ne, h.nodup, h.caps⟩
theorem zeros_append (D z : Nat) (d : List UInt8) (h : d.length ≤ D * z) : splice ((List.replicate (D * z) (0 : UInt8)).map bv) 0 ((d.take d.length).map bv) = (filP D z d).map bv := by
  unfold splice filP
  rw [List.take_zero, List.nil_append, List.take_length, List.length_map, Nat.zero_add, ← List.map_drop, List.drop_replicate, ← List.map_append]
end Go.Proofs.YtgajlgnniidgmaaDoor

namespace Go.Proofs.YtgajlgnniidgmaaDoor
set_option linter.unusedVariables false
set_option linter.unusedSimpArgs false
open Go.RowKit

/-- What results has laid when m steps have been lowered. -/
def resF (wd : Nat) (st : Nat → List UInt8) (m : Nat) : List (List UInt8) := (List.range wd).map fun k => if wd - m ≤ k then (lowD wd st m k).drop wd else []
theorem resF_len (wd : Nat) (st : Nat → List UInt8) (m : Nat) : (resF wd st m).length = wd := by unfold resF; simp
theorem resF_zero (wd : Nat) (st : Nat → List UInt8) : resF wd st 0 = List.replicate wd [] := by
  unfold resF
  apply List.ext_getElem?
  intro t
  by_cases h : t < wd
  · rw [List.getElem?_map, List.getElem?_range h, List.getElem?_replicate, if_pos h]
    show some (if wd - 0 ≤ t then _ else _) = _
    rw [if_neg (by omega)]
  · rw [List.getElem?_eq_none (by simp; omega), List.getElem?_eq_none (by simp; omega)]
theorem lowD_at (wd : Nat) (st : Nat → List UInt8) (m : Nat) : lowD wd st (m + 1) (wd - 1 - m) = low (lowD wd st m) (lowD wd st m (wd - 1 - m)) (wd - m) m := setS_same _ _ _
theorem lowD_other (wd : Nat) (st : Nat → List UInt8) (m : Nat) {k : Nat} (h : k ≠ wd - 1 - m) : lowD wd st (m + 1) k = lowD wd st m k := setS_other _ _ h
theorem resF_next {wd m : Nat} (st : Nat → List UInt8) (h : m < wd) : (resF wd st m).set (wd - 1 - m) ((lowD wd st (m + 1) (wd - 1 - m)).drop wd) = resF wd st (m + 1) := by
  unfold resF
  apply List.ext_getElem?
  intro t
  rw [List.getElem?_set]
  by_cases ht : t < wd
  · rw [List.getElem?_map, List.getElem?_map, List.getElem?_range ht]
    by_cases e : wd - 1 - m = t
    · rw [if_pos e, if_pos (by simp; omega)]
      show _ = some (if wd - (m + 1) ≤ t then _ else _)
      rw [if_pos (by omega), e]
    · rw [if_neg e]
      show some (if wd - m ≤ t then _ else _) = some (if wd - (m + 1) ≤ t then _ else _)
      by_cases h2 : wd - m ≤ t
      · rw [if_pos h2, if_pos (by omega), lowD_other wd st m (fun hh => e hh.symm)]
      · rw [if_neg h2, if_neg (by omega)]
  · rw [if_neg (by omega), List.getElem?_eq_none (by simp; omega), List.getElem?_eq_none (by simp; omega)]
theorem conv_run7 {o : Oper} {a : Act} (x : Operand) (hop : o.op = .convert 52 9 x) (l : List UInt8) (A : Option Addr) (n c B : Nat) (hn : n = l.length) (hx : a.eval x = .slice A n c) (W : World) (hr : Rds W B A (l.map bv)) :
    (execOp a.eval o).run Tryd.prog W = .ok (.value (.string (bs l))) W := by
  subst hn
  have h := run_bytes_bs (P := Tryd.prog) W 52 9 5 Tryd.underlying52 Tryd.underlying5 Tryd.underlying9 c hr
  unfold execOp
  simp only [hop, hx, Sem.run_bind, Sem.run_pure, Result.andThen_ok, h]
theorem made_strs (n : Nat) : madeCells #[Value.string .empty] n = ((List.replicate n ([] : List UInt8)).map sv).toArray := by
  apply Array.ext'
  rw [toList_madeCells_one, List.map_replicate]
  rfl
theorem size_str : (Tryd.prog.info? 9).map (·.size) = some 1 := by kernel_rfl
theorem one_str (S : ByteArray) : ∀ u ∈ (Value.string S).cells.toList, u.oneCell' = true := by
  intro u hu
  have : (Value.string S).cells.toList = [.string S] := rfl
  rw [this] at hu
  obtain rfl := List.mem_singleton.1 hu
  rfl
theorem lowD_len {wd len : Nat} {st : Nat → List UInt8} (hl : ∀ k, k < wd → (st k).length = len) : ∀ m, m ≤ wd → ∀ k, k < wd → (lowD wd st m k).length = len
  | 0, _, k, hk => hl k hk
  | m + 1, hm, k, hk => by
    by_cases e : k = wd - 1 - m
    · subst e; rw [lowD_at, low_len]; exact lowD_len hl m (by omega) _ hk
    · rw [lowD_other wd st m e]; exact lowD_len hl m (by omega) k hk
theorem stL_same {wd len h : Nat} {st st' : Nat → List UInt8} (sb sc : Nat → Nat) (h0 : 0 < len) (h1 : ∀ k, k < 16 → ((st k).length = (st' k).length)) : stL wd ⟨st, h⟩ sb sc = stL wd ⟨st', h⟩ sb sc := by
  unfold stL
  congr 2
  refine List.map_congr_left fun k hk => ?_
  have hk' := List.mem_range.1 hk
  have e := h1 k hk'
  have e2 : (st k).isEmpty = (st' k).isEmpty := by
    cases ha : st k with
    | nil => cases hb : st' k with
      | nil => rfl
      | cons _ _ => rw [ha, hb] at e; simp at e
    | cons _ _ => cases hb : st' k with
      | nil => rw [ha, hb] at e; simp at e
      | cons _ _ => rfl
  show Value.slice (if (st k).isEmpty then none else some ⟨sb k, 0, none⟩) (st k).length (sc k) = Value.slice (if (st' k).isEmpty then none else some ⟨sb k, 0, none⟩) (st' k).length (sc k)
  rw [e, e2]
theorem lowD_out {wd : Nat} {st : Nat → List UInt8} : ∀ m, m ≤ wd → ∀ k, wd ≤ k → lowD wd st m k = st k
  | 0, _, k, _ => rfl
  | m + 1, hm, k, hk => by rw [lowD_other wd st m (by omega)]; exact lowD_out m (by omega) k hk
/-- What results ends with. -/
def ResEnd (w : World) (gs wd : Nat) (L : List (List UInt8)) (e : Ending) (w' : World) : Prop := ∃ c, e = .returned (.slice (some ⟨w.heap.size, 0, none⟩) wd c) ∧ Blk w' w.heap.size (L.map sv) 9 ∧ Below gs w w'
end Go.Proofs.YtgajlgnniidgmaaDoor

namespace Go.Proofs.YtgajlgnniidgmaaDoor
set_option linter.unusedVariables false
set_option linter.unusedSimpArgs false
open Go.RowKit

/-- The data pieces of a set, with zeros for those that are lost; what the sum of an equation says. -/
def dat0 (D s z : Nat) (ps : List (List UInt8)) : List (List UInt8) := (List.range D).map fun i => if s.testBit i then ps.getD i [] else List.replicate z 0
def sum7 (D : Nat) (Gs : List (List Int)) (s z : Nat) (ps : List (List UInt8)) (k : Nat) : List UInt8 := Gf.vsum (ps.getD (D + k) []) (Gf.comb (par D Gs k) (dat0 D s z ps))
/-- A chunk that is filled up has the pieces of a set. -/
def HasP (D : Nat) (Gs : List (List Int)) (s cnt z : Nat) (ps : List (List UInt8)) (P : List UInt8) : Prop := ∀ k, k < cnt → s.testBit k = true → pce D Gs P z k = ps.getD k []
theorem dat0_len (D s z : Nat) (ps : List (List UInt8)) : (dat0 D s z ps).length = D := by unfold dat0; simp
theorem dat0_get {D s z i : Nat} {ps : List (List UInt8)} (h : i < D) : (dat0 D s z ps)[i]? = some (if s.testBit i then ps.getD i [] else List.replicate z 0) := by unfold dat0; simp [h]
theorem dat0_all {D s z : Nat} {ps : List (List UInt8)} (h : ∀ k, k < D → s.testBit k = true → (ps.getD k []).length = z) : ∀ x ∈ dat0 D s z ps, x.length = z := fun x hx => by
  obtain ⟨i, hi, rfl⟩ := List.mem_map.1 hx
  by_cases hb : s.testBit i = true
  · rw [if_pos hb]; exact h i (List.mem_range.1 hi) hb
  · rw [if_neg hb]; exact List.length_replicate
theorem fit_dat {D s z k : Nat} {Gs : List (List Int)} {ps : List (List UInt8)} (hD : 1 ≤ D) (h : ∀ k, k < D → s.testBit k = true → (ps.getD k []).length = z) : Gf.Fit (par D Gs k) (dat0 D s z ps) := by
  refine ⟨by rw [par_cr, crow_len, dat0_len], fun x hx => ?_⟩
  rw [dat0_all h x hx, List.headD_eq_head?_getD, List.head?_eq_getElem?, dat0_get (by omega)]
  exact (dat0_all h _ (List.mem_of_getElem? (dat0_get (show 0 < D by omega)))).symm
theorem comb_dat {D s z k t : Nat} {Gs : List (List Int)} {ps : List (List UInt8)} (hD : 1 ≤ D) (h : ∀ k, k < D → s.testBit k = true → (ps.getD k []).length = z) (ht : t < z) :
    (Gf.comb (par D Gs k) (dat0 D s z ps)).length = z ∧ (Gf.comb (par D Gs k) (dat0 D s z ps)).getD t 0 = xsum D fun i => Gf.mul (cr D Gs (D + k) i) (if s.testBit i then (ps.getD i []).getD t 0 else 0) := by
  have h0 : ((dat0 D s z ps).headD []).length = z := by
    rw [List.headD_eq_head?_getD, List.head?_eq_getElem?, dat0_get (by omega)]
    exact dat0_all h _ (List.mem_of_getElem? (dat0_get (show 0 < D by omega)))
  unfold Gf.comb
  rw [h0]
  unfold Gf.combN
  refine ⟨by simp, ?_⟩
  rw [List.getD_eq_getElem?_getD, List.getElem?_map, List.getElem?_range ht]
  show Gf.combAt _ _ t = _
  have := combAt_sum (par D Gs k) (dat0 D s z ps) t D (by rw [par_cr, crow_len]; exact Nat.le_refl _) (by rw [dat0_len]; exact Nat.le_refl _)
  rw [List.take_of_length_le (by rw [par_cr, crow_len]; exact Nat.le_refl _)] at this
  rw [this]
  refine xsum_congr fun i hi => ?_
  rw [par_cr, crow_at D Gs _ hi, el_get (dat0_get hi)]
  congr 1
  by_cases hb : s.testBit i = true
  · rw [if_pos hb, if_pos hb]
  · rw [if_neg hb, if_neg hb, List.getD_eq_getElem?_getD, List.getElem?_replicate]
    split <;> rfl
/-- Who is perpendicular: what an equation says at one byte of a chunk that has the pieces. -/
def zV (wd t : Nat) (y : Nat → Nat → UInt8) : Nat → UInt8 := fun j => if j < wd then y j t else if j = wd + t then 1 else 0
theorem dot_zV {wd z t : Nat} {y : Nat → Nat → UInt8} {r : Nat → UInt8} (ht : t < z) : dot7 (wd + z) r (zV wd t y) = (xsum wd fun j => Gf.mul (r j) (y j t)) ^^^ r (wd + t) := by
  have h1 : ∀ m, m ≤ z → dot7 (wd + m) r (zV wd t y) = (xsum wd fun j => Gf.mul (r j) (y j t)) ^^^ (if t < m then r (wd + t) else 0) := by
    intro m
    induction m with
    | zero =>
      intro _
      rw [if_neg (by omega), UInt8.xor_zero]
      exact xsum_congr fun j hj => by unfold zV; rw [if_pos (show j < wd from hj)]
    | succ m ih =>
      intro hm
      show dot7 (wd + m) r (zV wd t y) ^^^ Gf.mul (r (wd + m)) (zV wd t y (wd + m)) = _
      rw [ih (by omega)]
      unfold zV
      rw [if_neg (show ¬ wd + m < wd by omega)]
      by_cases e : m = t
      · subst e
        simp only [Nat.lt_irrefl, if_false, if_true, Gf.mul_one, UInt8.xor_zero, Nat.lt_succ_self]
      · rw [if_neg (show ¬ wd + m = wd + t by omega), Gf.mul_zero, UInt8.xor_zero]
        by_cases h : t < m
        · rw [if_pos h, if_pos (by omega)]
        · rw [if_neg h, if_neg (by omega)]
  rw [h1 z (Nat.le_refl _), if_pos ht]
theorem eqn_perp {D N s z k t : Nat} {Gs : List (List Int)} {ps : List (List UInt8)} {P : List UInt8} (hD : 1 ≤ D) (hk : k < N) (hb : s.testBit (D + k) = true) (ht : t < z) (hz : ∀ k, k < D + N → s.testBit k = true → (ps.getD k []).length = z) (hP : HasP D Gs s (D + N) z ps P) (hPl : P.length = D * z) :
    dot7 ((misL s D).length + z) (rfn (eqn (PM (par D Gs) N) (misL s D) (sum7 D Gs s z ps) k)) (zV (misL s D).length t fun j t => P.getD ((misL s D).getD j 0 * z + t) 0) = 0 := by
  have hzD : ∀ k, k < D → s.testBit k = true → (ps.getD k []).length = z := fun k h1 h2 => hz k (by omega) h2
  obtain ⟨hc1, hc2⟩ := comb_dat (k := k) (Gs := Gs) hD hzD ht
  have hlen : ((misL s D).map fun i => el (PM (par D Gs) N) k i).length = (misL s D).length := List.length_map _
  rw [dot_zV ht]
  have e1 : (xsum (misL s D).length fun j => Gf.mul (rfn (eqn (PM (par D Gs) N) (misL s D) (sum7 D Gs s z ps) k) j) (P.getD ((misL s D).getD j 0 * z + t) 0)) = xsum D fun i => if s.testBit i then 0 else Gf.mul (cr D Gs (D + k) i) (P.getD (i * z + t) 0) := by
    have := eqn_dot (D := D) (s := s) (su := sum7 D Gs s z ps) (Gs := Gs) hk (fun j => P.getD ((misL s D).getD j 0 * z + t) 0)
    unfold dot7 at this
    rw [this, xsum_mis s (fun i => Gf.mul (cr D Gs (D + k) i) (P.getD (i * z + t) 0)) D]
  have e2 : rfn (eqn (PM (par D Gs) N) (misL s D) (sum7 D Gs s z ps) k) ((misL s D).length + t) = (xsum D fun i => Gf.mul (cr D Gs (D + k) i) (P.getD (i * z + t) 0)) ^^^ xsum D fun i => Gf.mul (cr D Gs (D + k) i) (if s.testBit i then P.getD (i * z + t) 0 else 0) := by
    show (eqn _ _ _ k).getD _ 0 = _
    unfold eqn
    rw [List.getD_eq_getElem?_getD, List.getElem?_append_right (by rw [hlen]; omega), hlen, Nat.add_sub_cancel_left, ← List.getD_eq_getElem?_getD]
    unfold sum7
    rw [Gf.getD_vsum, hc2, ← hP (D + k) (by omega) hb, pce_at ht]
    congr 1
    refine xsum_congr fun i hi => ?_
    by_cases h : s.testBit i = true
    · rw [if_pos h, if_pos h, ← hP i (by omega) h, pce_unit hi hPl, List.getD_eq_getElem?_getD, List.getElem?_take, if_pos ht, List.getElem?_drop, ← List.getD_eq_getElem?_getD]
    · rw [if_neg h, if_neg h]
  rw [e1, e2, ← xsum_add, ← xsum_add]
  refine xsum_none _ fun i hi => ?_
  by_cases h : s.testBit i = true
  · rw [if_pos h, if_pos h, UInt8.xor_self, UInt8.xor_zero]
  · rw [if_neg h, if_neg h, Gf.mul_zero, UInt8.xor_zero, UInt8.xor_self]
/-- What solve makes of the stairs: the data pieces. -/
def solD (D s z : Nat) (ps : List (List UInt8)) (R : List (List UInt8)) : List (List UInt8) := (List.range D).map fun i => if s.testBit i then ps.getD i [] else R.getD (misL s i).length []
theorem flat_get {L : List (List UInt8)} {z : Nat} (h : ∀ x ∈ L, x.length = z) : L.flatten.length = L.length * z ∧ ∀ i t, i < L.length → t < z → L.flatten.getD (i * z + t) 0 = (L.getD i []).getD t 0 := by
  induction L with
  | nil => exact ⟨by simp, fun i t hi => by simp at hi⟩
  | cons x L ih =>
    obtain ⟨h1, h2⟩ := ih fun y hy => h y (List.mem_cons_of_mem _ hy)
    have hx := h x (List.mem_cons_self ..)
    refine ⟨by rw [List.flatten_cons, List.length_append, h1, hx, List.length_cons, Nat.succ_mul]; omega, fun i t hi ht => ?_⟩
    rw [List.flatten_cons, List.getD_eq_getElem?_getD]
    cases i with
    | zero => rw [Nat.zero_mul, Nat.zero_add, List.getElem?_append_left (by rw [hx]; exact ht)]; rfl
    | succ i =>
      rw [List.getElem?_append_right (by rw [hx, Nat.succ_mul]; omega), hx, show (i + 1) * z + t - z = i * z + t by rw [Nat.succ_mul]; omega, ← List.getD_eq_getElem?_getD, h2 i t (by simp at hi; omega) ht]
      rfl
theorem solve_is {D N s z : Nat} {Gs : List (List Int)} {ps : List (List UInt8)} {P : List UInt8} (hD : 1 ≤ D) (hz : ∀ k, k < D + N → s.testBit k = true → (ps.getD k []).length = z) (hP : HasP D Gs s (D + N) z ps P) (hPl : P.length = D * z)
    (hfull : (runS (misL s D).length noS (eqL (PM (par D Gs) N) (misL s D) (sum7 D Gs s z ps) (s / 2 ^ D) N 0)).ht = (misL s D).length) (hsl : ∀ k, k < N → s.testBit (D + k) = true → (sum7 D Gs s z ps k).length = z) :
    (solD D s z ps (resF (misL s D).length (runS (misL s D).length noS (eqL (PM (par D Gs) N) (misL s D) (sum7 D Gs s z ps) (s / 2 ^ D) N 0)).st (misL s D).length)).flatten = P := by
  obtain ⟨wd, hwd⟩ : ∃ wd, wd = (misL s D).length := ⟨_, rfl⟩
  have hrl : ∀ r ∈ eqL (PM (par D Gs) N) (misL s D) (sum7 D Gs s z ps) (s / 2 ^ D) N 0, r.length = wd + z := fun r hr => by
    obtain ⟨t, _, h2, h3, rfl⟩ := eqL_mem.1 hr
    show List.length (_ ++ _) = _
    rw [List.length_append, List.length_map, hwd, hsl t h2 (by rw [Nat.testBit_div_two_pow, Nat.add_comm] at h3; exact h3)]
  have hperp : ∀ t, t < z → ∀ r ∈ eqL (PM (par D Gs) N) (misL s D) (sum7 D Gs s z ps) (s / 2 ^ D) N 0, dot7 (wd + z) (rfn r) (zV wd t fun j t => P.getD ((misL s D).getD j 0 * z + t) 0) = 0 := fun t ht r hr => by
    obtain ⟨k, _, h2, h3, rfl⟩ := eqL_mem.1 hr
    rw [hwd]
    exact eqn_perp hD h2 (by rw [Nat.testBit_div_two_pow, Nat.add_comm] at h3; exact h3) ht hz hP hPl
  rw [← hwd] at hfull ⊢
  generalize eqL (PM (par D Gs) N) (misL s D) (sum7 D Gs s z ps) (s / 2 ^ D) N 0 = E at hrl hperp hfull ⊢
  obtain ⟨h1, h2, h3, h4⟩ := run_full (wd := wd) (len := wd + z) (Nat.le_add_right _ _) hrl
  rw [h2] at hfull
  have hf := hts_all hfull
  obtain ⟨hli, hsat⟩ := li_run h1 hf (Nat.le_add_right _ _) wd (Nat.le_refl _)
  have hres : ∀ j t, j < wd → t < z → ((resF wd (runS wd noS E).st wd).getD j []).getD t 0 = P.getD ((misL s D).getD j 0 * z + t) 0 := fun j t hj ht => by
    have hv := li_value hli (Nat.le_add_right _ _) (y := fun j t => P.getD ((misL s D).getD j 0 * z + t) 0) (t := t) (z := zV wd t fun j t => P.getD ((misL s D).getD j 0 * z + t) 0) (by omega) (fun j hj => by unfold zV; rw [if_pos hj]) (by unfold zV; rw [if_neg (by omega), if_pos rfl]) (fun j h1 h2 => by unfold zV; rw [if_neg (by omega), if_neg h2]) (hsat _ (h4 _ (hperp t ht))) hj
    have e : (resF wd (runS wd noS E).st wd).getD j [] = (lowD wd (runS wd noS E).st wd j).drop wd := by
      unfold resF
      rw [List.getD_eq_getElem?_getD, List.getElem?_map, List.getElem?_range hj]
      show (if wd - wd ≤ j then _ else _) = _
      rw [if_pos (by omega)]
    rw [e, List.getD_eq_getElem?_getD, List.getElem?_drop, ← List.getD_eq_getElem?_getD]
    exact hv
  have hll : ∀ k, k < wd → ((runS wd noS E).st k).length = wd + z := fun k hk => (h1.len k hk).resolve_left (hf k hk)
  have hlen : ∀ j, j < wd → ((resF wd (runS wd noS E).st wd).getD j []).length = z := fun j hj => by
    unfold resF
    rw [List.getD_eq_getElem?_getD, List.getElem?_map, List.getElem?_range hj]
    show (if wd - wd ≤ j then _ else _ : List UInt8).length = _
    rw [if_pos (by omega), List.length_drop, lowD_len hll wd (Nat.le_refl _) j hj]
    omega
  generalize resF wd (runS wd noS E).st wd = R at hres hlen ⊢
  have hmis : ∀ i, i < D → s.testBit i = false → (misL s i).length < wd ∧ (misL s D).getD (misL s i).length 0 = i := fun i hi hb => by
    have := mis_of hi hb
    refine ⟨by rw [hwd]; exact (List.getElem?_eq_some_iff.1 this).1, ?_⟩
    rw [List.getD_eq_getElem?_getD, this]; rfl
  have hgetD : ∀ i, i < D → (solD D s z ps R).getD i [] = if s.testBit i then ps.getD i [] else R.getD (misL s i).length [] := fun i hi => by
    unfold solD
    rw [List.getD_eq_getElem?_getD, List.getElem?_map, List.getElem?_range hi]
    rfl
  have hsd : ∀ x ∈ solD D s z ps R, x.length = z := fun x hx => by
    obtain ⟨i, hi, rfl⟩ := List.mem_map.1 hx
    have hi' := List.mem_range.1 hi
    cases hb : s.testBit i with
    | true => exact hz i (by omega) hb
    | false => exact hlen _ (hmis i hi' hb).1
  obtain ⟨f1, f2⟩ := flat_get hsd
  have hsl : (solD D s z ps R).length = D := by unfold solD; simp
  rw [hsl] at f1 f2
  refine row_ext (n := D * z) f1 hPl fun q hq => ?_
  rcases Nat.eq_zero_or_pos z with h0 | h0
  · rw [h0] at hq; omega
  · obtain ⟨i, t, hi, ht, rfl⟩ : ∃ i t, i < D ∧ t < z ∧ q = i * z + t := ⟨q / z, q % z, Nat.div_lt_of_lt_mul (by rw [Nat.mul_comm]; exact hq), Nat.mod_lt _ h0, by rw [Nat.mul_comm]; exact (Nat.div_add_mod q z).symm⟩
    rw [f2 i t hi ht, hgetD i hi]
    cases hb : s.testBit i with
    | true => 
      rw [if_pos rfl, ← hP i (by omega) hb, pce_unit hi hPl, List.getD_eq_getElem?_getD, List.getElem?_take, if_pos ht, List.getElem?_drop, ← List.getD_eq_getElem?_getD]
    | false =>
      obtain ⟨m1, m2⟩ := hmis i hi hb
      rw [if_neg (by decide), hres _ t m1 ht, m2]
end Go.Proofs.YtgajlgnniidgmaaDoor
