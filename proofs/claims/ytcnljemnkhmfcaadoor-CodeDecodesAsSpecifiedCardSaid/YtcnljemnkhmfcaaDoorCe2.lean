/-
  Stage 7, the mathematics: what is lost decides; groups without an error. No Go in sight. Stage 7: the pieces of a chunk (maths), and the contract of encode. Contracts of stage 7: (*stairs).results. Stage 7: what a set of pieces says of a chunk (maths); the contract of solve's closure.
-/
import Derived.Test.YtcnljemnkhmfcaaDoorCe1
import Derived.Test.YtcnljemnkhmfcaaDoorCd2
import Derived.Test.YtcnljemnkhmfcaaDoorCd1
import Derived.Test.YtcnljemnkhmfcaaDoorGfw
namespace Go.Proofs.YtcnljemnkhmfcaaDoor
set_option linter.unusedVariables false
set_option linter.unusedSimpArgs false

theorem grp1_rng {D : Nat} : ∀ (g : List Int) (used : Nat) (last : Int) {u : Nat}, grp1 D used last g = some u → -1 ≤ last → ∀ v ∈ g, 0 ≤ v ∧ v < (D : Int)
  | [], _, _, _, _, _, v, hv => by cases hv
  | i :: g, used, last, u, h, hl, v, hv => by
    unfold grp1 at h
    by_cases c : i ≤ last ∨ i ≥ (D : Int) ∨ used.testBit i.toNat = true
    · rw [if_pos c] at h; cases h
    · rw [if_neg c] at h
      have hi : ¬ i ≤ last ∧ ¬ i ≥ (D : Int) := ⟨fun hh => c (.inl hh), fun hh => c (.inr (.inl hh))⟩
      rcases List.mem_cons.1 hv with rfl | hv
      · omega
      · exact grp1_rng g _ _ h (by omega) v hv
theorem grpE_rng {D : Nat} : ∀ (Gs : List (List Int)) (used : Nat), grpE D used Gs = 0 → ∀ g ∈ Gs, ∀ v ∈ g, 0 ≤ v ∧ v < (D : Int)
  | [], _, _, g, hg => by cases hg
  | g0 :: Gs, used, h, g, hg => by
    unfold grpE at h
    by_cases c : g0 = []
    · rw [if_pos c] at h; cases h
    · rw [if_neg c] at h
      cases e : grp1 D used (-1) g0 with
      | none => rw [e] at h; cases h
      | some u =>
        rw [e] at h
        rcases List.mem_cons.1 hg with rfl | hg
        · exact grp1_rng _ _ _ e (by omega)
        · exact grpE_rng Gs u h g hg
/-- The rows of the pieces in a set. -/
def pcL (D : Nat) (Gs : List (List Int)) (s cnt : Nat) : List (List UInt8) := ((List.range cnt).filter fun k => s.testBit k).map fun k => crow D Gs k D
theorem pcL_mem {D : Nat} {Gs : List (List Int)} {s cnt : Nat} {r : List UInt8} : r ∈ pcL D Gs s cnt ↔ ∃ k, k < cnt ∧ s.testBit k = true ∧ r = crow D Gs k D := by
  unfold pcL
  rw [List.mem_map]
  constructor
  · rintro ⟨k, hk, rfl⟩
    obtain ⟨h1, h2⟩ := List.mem_filter.1 hk
    exact ⟨k, List.mem_range.1 h1, h2, rfl⟩
  · rintro ⟨k, h1, h2, rfl⟩
    exact ⟨k, List.mem_filter.2 ⟨List.mem_range.2 h1, h2⟩, rfl⟩
theorem crow_at (D : Nat) (Gs : List (List Int)) (k : Nat) {m i : Nat} (h : i < m) : (crow D Gs k m).getD i 0 = cr D Gs k i := by
  unfold crow
  rw [List.getD_eq_getElem?_getD, List.getElem?_map, List.getElem?_range h]
  rfl
theorem el_par {D N k i : Nat} {Gs : List (List Int)} (hk : k < N) (hi : i < D) : el (PM (par D Gs) N) k i = cr D Gs (D + k) i := by
  rw [el_get (PM_get (par D Gs) hk), par_cr, crow_at D Gs _ hi]
theorem xsum_mis (s : Nat) (f : Nat → UInt8) : ∀ D, xsum D (fun i => if s.testBit i then 0 else f i) = xsum (misL s D).length fun j => f ((misL s D).getD j 0)
  | 0 => rfl
  | D + 1 => by
    rw [xsum_succ, xsum_mis s f D]
    cases h : s.testBit D with
    | true => rw [misL_no h]; simp
    | false =>
      rw [misL_yes h, List.length_append]
      show _ = xsum ((misL s D).length + 1) _
      rw [xsum_succ]
      have e1 : ∀ j, j < (misL s D).length → (misL s D ++ [D]).getD j 0 = (misL s D).getD j 0 := fun j hj => by
        rw [List.getD_eq_getElem?_getD, List.getElem?_append_left hj, List.getD_eq_getElem?_getD]
      have e2 : (misL s D ++ [D]).getD (misL s D).length 0 = D := by
        rw [List.getD_eq_getElem?_getD, List.getElem?_append_right (Nat.le_refl _), Nat.sub_self]; rfl
      rw [e2]
      congr 1
      · exact xsum_congr fun j hj => by rw [e1 j hj]
theorem mis_at {s : Nat} : ∀ {D j i : Nat}, (misL s D)[j]? = some i → i < D ∧ s.testBit i = false ∧ (misL s i).length = j
  | 0, j, i, h => by unfold misL at h; simp at h
  | D + 1, j, i, h => by
    cases hb : s.testBit D with
    | true =>
      rw [misL_no hb] at h
      obtain ⟨h1, h2, h3⟩ := mis_at h
      exact ⟨by omega, h2, h3⟩
    | false =>
      rw [misL_yes hb] at h
      rcases Nat.lt_or_ge j (misL s D).length with hj | hj
      · rw [List.getElem?_append_left hj] at h
        obtain ⟨h1, h2, h3⟩ := mis_at h
        exact ⟨by omega, h2, h3⟩
      · rw [List.getElem?_append_right hj] at h
        rcases Nat.eq_zero_or_pos (j - (misL s D).length) with h0 | h0
        · rw [h0] at h
          obtain rfl := Option.some.inj h
          exact ⟨by omega, hb, by omega⟩
        · rw [List.getElem?_eq_none (by simp; omega)] at h; cases h
theorem mis_of {s : Nat} : ∀ {D i : Nat}, i < D → s.testBit i = false → (misL s D)[(misL s i).length]? = some i
  | 0, i, h, _ => by omega
  | D + 1, i, h, hb => by
    by_cases e : i = D
    · subst e
      rw [misL_yes hb, List.getElem?_append_right (Nat.le_refl _), Nat.sub_self]
      rfl
    · have ih := mis_of (D := D) (by omega) hb
      cases hd : s.testBit D with
      | true => rw [misL_no hd]; exact ih
      | false => rw [misL_yes hd, List.getElem?_append_left (List.getElem?_eq_some_iff.1 ih).1]; exact ih
theorem unit_dot {D k : Nat} {Gs : List (List Int)} (hk : k < D) (X : Nat → UInt8) : dot7 D (rfn (crow D Gs k D)) X = X k := by
  unfold dot7
  rw [xsum_one (a := k) _ hk fun j hj hne => by
    show Gf.mul ((crow D Gs k D).getD j 0) _ = 0
    rw [crow_at D Gs k hj]; unfold cr; rw [if_pos hk, if_neg hne, Gf.zero_mul]]
  show Gf.mul ((crow D Gs k D).getD k 0) _ = _
  rw [crow_at D Gs k hk]; unfold cr; rw [if_pos hk, if_pos rfl, Gf.one_mul]
theorem eqn_dot {D N k s : Nat} {Gs : List (List Int)} {su : Nat → List UInt8} (hk : k < N) (x : Nat → UInt8) : dot7 (misL s D).length (rfn (eqn (PM (par D Gs) N) (misL s D) su k)) x = xsum (misL s D).length fun j => Gf.mul (cr D Gs (D + k) ((misL s D).getD j 0)) (x j) := by
  refine xsum_congr fun j hj => ?_
  obtain ⟨i, hi⟩ : ∃ i, (misL s D)[j]? = some i := ⟨_, List.getElem?_eq_getElem hj⟩
  have hiD := (mis_at hi).1
  have e : (misL s D).getD j 0 = i := by rw [List.getD_eq_getElem?_getD, hi]; rfl
  rw [e]
  congr 1
  show (eqn _ _ su k).getD j 0 = _
  unfold eqn
  rw [List.getD_eq_getElem?_getD, List.getElem?_append_left (by rw [List.length_map]; exact hj), List.getElem?_map, hi]
  exact el_par hk hiD
/-- A set determines the chunk exactly if its parities determine the lost data pieces. -/
theorem lost_full {D N s : Nat} {Gs : List (List Int)} {su : Nat → List UInt8} : Full7 (eqL (PM (par D Gs) N) (misL s D) su (s / 2 ^ D) N 0) (misL s D).length ↔ Full7 (pcL D Gs s (D + N)) D := by
  constructor
  · intro h X hX
    have hin : ∀ i, i < D → s.testBit i = true → X i = 0 := fun i hi hb => by
      rw [← unit_dot (Gs := Gs) hi X]
      exact hX _ (pcL_mem.2 ⟨i, by omega, hb, rfl⟩)
    have hx := h (fun j => X ((misL s D).getD j 0)) (fun r hr => by
      obtain ⟨t, _, ht, hb, rfl⟩ := eqL_mem.1 hr
      rw [eqn_dot ht, ← xsum_mis s (fun i => Gf.mul (cr D Gs (D + t) i) (X i)) D]
      have := hX _ (pcL_mem.2 ⟨D + t, by omega, by rw [Nat.testBit_div_two_pow] at hb; rw [Nat.add_comm]; exact hb, rfl⟩)
      refine Eq.trans (xsum_congr fun i hi => ?_) this
      show _ = Gf.mul ((crow D Gs (D + t) D).getD i 0) (X i)
      rw [crow_at D Gs _ hi]
      by_cases hb : s.testBit i = true
      · simp only [if_pos hb, hin i hi hb, Gf.mul_zero]
      · simp only [if_neg hb])
    intro i hi
    cases hb : s.testBit i with
    | true => exact hin i hi hb
    | false =>
      have h1 := mis_of hi hb
      have := hx (misL s i).length (List.getElem?_eq_some_iff.1 h1).1
      rw [List.getD_eq_getElem?_getD, h1] at this
      exact this
  · intro h x hx
    have hX := h (fun i => if s.testBit i then 0 else x (misL s i).length) (fun r hr => by
      obtain ⟨k, hk, hb, rfl⟩ := pcL_mem.1 hr
      by_cases hkD : k < D
      · rw [unit_dot hkD, if_pos hb]
      · obtain ⟨t, rfl⟩ : ∃ t, k = D + t := ⟨k - D, by omega⟩
        have := hx _ (eqL_mem.2 ⟨t, by omega, by omega, by rw [Nat.testBit_div_two_pow, Nat.add_comm]; exact hb, rfl⟩)
        rw [eqn_dot (by omega)] at this
        have e2 : xsum D (fun i => if s.testBit i then 0 else Gf.mul (cr D Gs (D + t) i) (x (misL s i).length)) = dot7 D (rfn (crow D Gs (D + t) D)) fun i => if s.testBit i then 0 else x (misL s i).length := by
          refine xsum_congr fun i hi => ?_
          show _ = Gf.mul ((crow D Gs (D + t) D).getD i 0) _
          rw [crow_at D Gs _ hi]
          by_cases hb : s.testBit i = true
          · simp only [if_pos hb, Gf.mul_zero]
          · simp only [if_neg hb]
        refine Eq.trans (e2.symm.trans ((xsum_mis s (fun i => Gf.mul (cr D Gs (D + t) i) (x (misL s i).length)) D).trans (xsum_congr fun j hj => ?_))) this
        obtain ⟨i, hi⟩ : ∃ i, (misL s D)[j]? = some i := ⟨_, List.getElem?_eq_getElem hj⟩
        have e : (misL s D).getD j 0 = i := by rw [List.getD_eq_getElem?_getD, hi]; rfl
        show Gf.mul _ (x (misL s ((misL s D).getD j 0)).length) = _
        rw [e, (mis_at hi).2.2])
    intro j hj
    obtain ⟨i, hi⟩ : ∃ i, (misL s D)[j]? = some i := ⟨_, List.getElem?_eq_getElem hj⟩
    obtain ⟨h1, h2, h3⟩ := mis_at hi
    have := hX i h1
    simp only [h2, h3] at this
    exact this
/-- When a set of pieces of a code is recoverable. -/
def RecP (D : Int) (Gs : List (List Int)) (G s : Int) : Prop := chkE D Gs G = 0 ∧ 0 ≤ s ∧ s < 2 ^ (D.toNat + Gs.length + G.toNat) ∧ Full7 (pcL D.toNat Gs s.toNat (D.toNat + (Gs.length + G.toNat))) D.toNat
end Go.Proofs.YtcnljemnkhmfcaaDoor

namespace Go.Proofs.YtcnljemnkhmfcaaDoor
set_option linter.unusedVariables false
set_option linter.unusedSimpArgs false
open Go.RowKit

/-- How long pieces are; a chunk, filled up; a piece of a chunk that is filled up; all pieces. -/
def szP (D n : Nat) : Nat := (n + D - 1) / D
def filP (D z : Nat) (d : List UInt8) : List UInt8 := d ++ List.replicate (D * z - d.length) 0
def pce (D : Nat) (Gs : List (List Int)) (P : List UInt8) (z k : Nat) : List UInt8 := rowF (fun t => xsum D fun i => Gf.mul (cr D Gs k i) (P.getD (i * z + t) 0)) z
def encP (D : Nat) (Gs : List (List Int)) (P : List UInt8) (z cnt : Nat) : List (List UInt8) := (List.range cnt).map (pce D Gs P z)
theorem pce_len (D : Nat) (Gs : List (List Int)) (P : List UInt8) (z k : Nat) : (pce D Gs P z k).length = z := rowF_len _ _
theorem pce_at {D : Nat} {Gs : List (List Int)} {P : List UInt8} {z k t : Nat} (h : t < z) : (pce D Gs P z k).getD t 0 = xsum D fun i => Gf.mul (cr D Gs k i) (P.getD (i * z + t) 0) := by
  unfold pce
  rw [List.getD_eq_getElem?_getD, rowF_get _ h]
  rfl
theorem encP_len (D : Nat) (Gs : List (List Int)) (P : List UInt8) (z cnt : Nat) : (encP D Gs P z cnt).length = cnt := by unfold encP; simp
theorem encP_get {D : Nat} {Gs : List (List Int)} {P : List UInt8} {z cnt k : Nat} (h : k < cnt) : (encP D Gs P z cnt)[k]? = some (pce D Gs P z k) := by unfold encP; simp [h]
theorem encP_next (D : Nat) (Gs : List (List Int)) (P : List UInt8) (z k : Nat) : encP D Gs P z (k + 1) = encP D Gs P z k ++ [pce D Gs P z k] := by
  unfold encP
  rw [List.range_succ, List.map_append]; rfl
theorem encP_take {D : Nat} {Gs : List (List Int)} {P : List UInt8} {z k m : Nat} (h : m ≤ k) : (encP D Gs P z k).take m = encP D Gs P z m := by
  unfold encP
  rw [← List.map_take, List.take_range, Nat.min_eq_left h]
theorem szP_mul {D n : Nat} (h : 1 ≤ D) : n ≤ D * szP D n ∧ D * szP D n ≤ n + D - 1 := by
  unfold szP
  have h1 := Nat.div_add_mod (n + D - 1) D
  have h2 := Nat.mod_lt (n + D - 1) (show 0 < D by omega)
  omega
theorem filP_len {D z : Nat} {d : List UInt8} (h : d.length ≤ D * z) : (filP D z d).length = D * z := by
  unfold filP; rw [List.length_append, List.length_replicate]; omega
/-- A data piece is a part of the chunk. -/
theorem pce_unit {D : Nat} {Gs : List (List Int)} {P : List UInt8} {z k : Nat} (hk : k < D) (hP : P.length = D * z) : pce D Gs P z k = (P.drop (k * z)).take z := by
  have hkz : k * z + z ≤ D * z := by rw [← Nat.succ_mul]; exact Nat.mul_le_mul_right z hk
  refine row_ext (n := z) (pce_len _ _ _ _ _) (by rw [List.length_take, List.length_drop]; omega) fun t ht => ?_
  rw [pce_at ht, xsum_one (a := k) _ hk fun j hj hne => by unfold cr; rw [if_pos hk, if_neg hne, Gf.zero_mul]]
  unfold cr
  rw [if_pos hk, if_pos rfl, Gf.one_mul, List.getD_eq_getElem?_getD, List.getD_eq_getElem?_getD, List.getElem?_take, if_pos ht, List.getElem?_drop]
/-- A parity is the combination of the data pieces. -/
theorem pce_comb {D : Nat} {Gs : List (List Int)} {P : List UInt8} {z k : Nat} (hD : 1 ≤ D) : Gf.comb (crow D Gs k D) (encP D Gs P z D) = rowF (fun t => xsum D fun i => Gf.mul (cr D Gs k i) ((pce D Gs P z i).getD t 0)) z := by
  have h0 : ((encP D Gs P z D).headD []).length = z := by
    rw [List.headD_eq_head?_getD, List.head?_eq_getElem?, encP_get (by omega)]
    exact pce_len _ _ _ _ _
  unfold Gf.comb
  rw [h0]
  unfold Gf.combN rowF
  refine List.map_congr_left fun t ht => ?_
  have := combAt_sum (crow D Gs k D) (encP D Gs P z D) t D (by rw [crow_len]; exact Nat.le_refl _) (by rw [encP_len]; exact Nat.le_refl _)
  rw [List.take_of_length_le (by rw [crow_len]; exact Nat.le_refl _)] at this
  rw [this]
  refine xsum_congr fun i hi => ?_
  rw [crow_at D Gs k hi, el_get (encP_get hi)]
theorem pce_par {D : Nat} {Gs : List (List Int)} {P : List UInt8} {z k : Nat} (hD : 1 ≤ D) (hP : P.length = D * z) : Gf.comb (crow D Gs k D) (encP D Gs P z D) = pce D Gs P z k := by
  rw [pce_comb hD]
  unfold pce rowF
  refine List.map_congr_left fun t ht => xsum_congr fun i hi => ?_
  have ht' := List.mem_range.1 ht
  show Gf.mul _ ((pce D Gs P z i).getD t 0) = _
  rw [pce_unit hi hP, List.getD_eq_getElem?_getD, List.getElem?_take, if_pos ht', List.getElem?_drop, ← List.getD_eq_getElem?_getD]
theorem fit_enc {D : Nat} {Gs : List (List Int)} {P : List UInt8} {z k : Nat} (hD : 1 ≤ D) : Gf.Fit (crow D Gs k D) (encP D Gs P z D) := by
  refine ⟨by rw [crow_len, encP_len], fun x hx => ?_⟩
  obtain ⟨i, hi, rfl⟩ := List.mem_map.1 hx
  rw [pce_len, List.headD_eq_head?_getD, List.head?_eq_getElem?, encP_get (by omega)]
  exact (pce_len _ _ _ _ _).symm
/-- Texts of the call's own. -/
def OwnS (w : World) (base : Nat) (v : Value) (l : List (List UInt8)) : Prop := w.ownsRow base 9 1 v l.length (l.map sv)
theorem infoStr7 : (Tryd.prog.info? 9).map (fun i => (i.zero, i.size, i.bytes)) = some (some (.string .empty), 1, 16) := by kernel_rfl
theorem push_s {w0 : World} {ops : Array Oper} {rest : List Oper} {o : Oper} {a : Act} {Q : Exit → Act → World → Prop} (hgd : o.guard = none) (s x : Operand)
    (ho : o.op = .call { callee := .builtin .append, args := #[s, x], argTypes := #[32, 32] })
    (base : Nat) (v : Value) (l : List (List UInt8)) (y : List UInt8) (u : Value) (hu : u = sv y) (hs : a.eval s = v) (hx : a.eval x = .slice (some ⟨w0.heap.size, 0, none⟩) 1 1)
    (hown : OwnS w0 base v l) (hlen : l.length ≤ 1000000) (hbase : base ≤ w0.heap.size)
    (h : ∀ v' w', OwnS w' base v' (l ++ [y]) → Onto w0 v w' v' → wpList Tryd.prog ops Q rest (a.put o.dst v') w') :
    wpList Tryd.prog ops Q (o :: rest) a (w0.alloc (.cells #[u] 9)) := by
  subst hu
  obtain ⟨i0, hi, hz0, hz1, hz2⟩ := info_parts infoStr7
  refine wpList_push hgd s x 32 ho base 9 i0 (.string .empty) 16 Tryd.underlying32 hi hz0 hz1 hz2 rfl v l.length (l.map sv) (sv y) hs hx rfl hown (by omega) (by unfold maxLen; omega) hbase ?_
  intro v' w' h1 h2
  exact h v' w' (by unfold OwnS; simpa using h1) h2
theorem OwnS.keep {w w' : World} {base : Nat} {v : Value} {l : List (List UInt8)} (h : OwnS w base v l) (hb : Below w.heap.size w w') : OwnS w' base v l := by
  refine ⟨h.1, ?_⟩
  rcases h.2 with hn | ⟨g, cap, cur, hv, hg, hh, rest⟩
  · exact .inl hn
  · exact .inr ⟨g, cap, cur, hv, hg, by rw [hb.block g (Array.getElem?_eq_some_iff.1 hh).1]; exact hh, rest⟩
theorem OwnS.slice {w : World} {base : Nat} {v : Value} {l : List (List UInt8)} (h : OwnS w base v l) : ∃ A c, v = .slice A l.length c ∧ l.length ≤ c ∧ c ≤ maxLen ∧ (A = none → c = 0) ∧ Rds w w.heap.size A (l.map sv) := own_form h
theorem below_grownS {w0 w w' : World} {v : Value} {l : List (List UInt8)} (hb : Below w0.heap.size w0 w) (h : OwnS w w0.heap.size v l) (hg : w.grownBy w' v.ownBlock) (hs : w0.heap.size ≤ w.heap.size) : Below w0.heap.size w0 w' :=
  hb.grown hg hs fun k hk => (World.ownsRow.lt h k hk).1
theorem OwnS.up {w : World} {base base' : Nat} {v : Value} {l : List (List UInt8)} (h : OwnS w base v l) (hb : base' ≤ base) : OwnS w base' v l := by
  refine ⟨h.1, ?_⟩
  rcases h.2 with hn | ⟨g, cap, cur, hv, hg, rest⟩
  · exact .inl hn
  · exact .inr ⟨g, cap, cur, hv, Nat.le_trans hb hg, rest⟩
/-- A matrix of the call's own whose blocks have not changed. -/
theorem Om.mid {w w' : World} {base g : Nat} {bs : List Nat} {M : List (List UInt8)} {rest : List Value} (h : Om w base g bs M rest) (hs : ∀ x, base ≤ x → x < w.heap.size → w'.heap[x]? = w.heap[x]?) : Om w' base g bs M rest :=
  ⟨h.len, (hs g h.low h.out.lt).trans h.out, fun i b m hb hm => (hs b (h.lows b (List.mem_of_getElem? hb)) (h.row i b m hb hm).lt).trans (h.row i b m hb hm), h.low, h.lows, h.ne, h.nodup, h.caps⟩
theorem zeros_append (D z : Nat) (d : List UInt8) (h : d.length ≤ D * z) : splice ((List.replicate (D * z) (0 : UInt8)).map bv) 0 ((d.take d.length).map bv) = (filP D z d).map bv := by
  unfold splice filP
  rw [List.take_zero, List.nil_append, List.take_length, List.length_map, Nat.zero_add, ← List.map_drop, List.drop_replicate, ← List.map_append]
end Go.Proofs.YtcnljemnkhmfcaaDoor

namespace Go.Proofs.YtcnljemnkhmfcaaDoor
set_option linter.unusedVariables false
set_option linter.unusedSimpArgs false
open Go.RowKit

/-- What results has laid when m steps have been lowered. -/
def resF (wd : Nat) (st : Nat → List UInt8) (m : Nat) : List (List UInt8) := (List.range wd).map fun k => if wd - m ≤ k then (lowD wd st m k).drop wd else []
theorem resF_len (wd : Nat) (st : Nat → List UInt8) (m : Nat) : (resF wd st m).length = wd := by unfold resF; simp
theorem resF_zero (wd : Nat) (st : Nat → List UInt8) : resF wd st 0 = List.replicate wd [] := by
  unfold resF
  apply List.ext_getElem?
  intro t
  by_cases h : t < wd
  · rw [List.getElem?_map, List.getElem?_range h, List.getElem?_replicate, if_pos h]
    show some (if wd - 0 ≤ t then _ else _) = _
    rw [if_neg (by omega)]
  · rw [List.getElem?_eq_none (by simp; omega), List.getElem?_eq_none (by simp; omega)]
theorem lowD_at (wd : Nat) (st : Nat → List UInt8) (m : Nat) : lowD wd st (m + 1) (wd - 1 - m) = low (lowD wd st m) (lowD wd st m (wd - 1 - m)) (wd - m) m := setS_same _ _ _
theorem lowD_other (wd : Nat) (st : Nat → List UInt8) (m : Nat) {k : Nat} (h : k ≠ wd - 1 - m) : lowD wd st (m + 1) k = lowD wd st m k := setS_other _ _ h
theorem resF_next {wd m : Nat} (st : Nat → List UInt8) (h : m < wd) : (resF wd st m).set (wd - 1 - m) ((lowD wd st (m + 1) (wd - 1 - m)).drop wd) = resF wd st (m + 1) := by
  unfold resF
  apply List.ext_getElem?
  intro t
  rw [List.getElem?_set]
  by_cases ht : t < wd
  · rw [List.getElem?_map, List.getElem?_map, List.getElem?_range ht]
    by_cases e : wd - 1 - m = t
    · rw [if_pos e, if_pos (by simp; omega)]
      show _ = some (if wd - (m + 1) ≤ t then _ else _)
      rw [if_pos (by omega), e]
    · rw [if_neg e]
      show some (if wd - m ≤ t then _ else _) = some (if wd - (m + 1) ≤ t then _ else _)
      by_cases h2 : wd - m ≤ t
      · rw [if_pos h2, if_pos (by omega), lowD_other wd st m (fun hh => e hh.symm)]
      · rw [if_neg h2, if_neg (by omega)]
  · rw [if_neg (by omega), List.getElem?_eq_none (by simp; omega), List.getElem?_eq_none (by simp; omega)]
theorem conv_run7 {o : Oper} {a : Act} (x : Operand) (hop : o.op = .convert 57 9 x) (l : List UInt8) (A : Option Addr) (n c B : Nat) (hn : n = l.length) (hx : a.eval x = .slice A n c) (W : World) (hr : Rds W B A (l.map bv)) :
    (execOp a.eval o).run Tryd.prog W = .ok (.value (.string (bs l))) W := by
  subst hn
  have h := run_bytes_bs (P := Tryd.prog) W 57 9 5 Tryd.underlying57 Tryd.underlying5 Tryd.underlying9 c hr
  unfold execOp
  simp only [hop, hx, Sem.run_bind, Sem.run_pure, Result.andThen_ok, h]
theorem made_strs (n : Nat) : madeCells #[Value.string .empty] n = ((List.replicate n ([] : List UInt8)).map sv).toArray := by
  apply Array.ext'
  rw [toList_madeCells_one, List.map_replicate]
  rfl
theorem size_str : (Tryd.prog.info? 9).map (·.size) = some 1 := by kernel_rfl
theorem one_str (S : ByteArray) : ∀ u ∈ (Value.string S).cells.toList, u.oneCell' = true := by
  intro u hu
  have : (Value.string S).cells.toList = [.string S] := rfl
  rw [this] at hu
  obtain rfl := List.mem_singleton.1 hu
  rfl
theorem lowD_len {wd len : Nat} {st : Nat → List UInt8} (hl : ∀ k, k < wd → (st k).length = len) : ∀ m, m ≤ wd → ∀ k, k < wd → (lowD wd st m k).length = len
  | 0, _, k, hk => hl k hk
  | m + 1, hm, k, hk => by
    by_cases e : k = wd - 1 - m
    · subst e; rw [lowD_at, low_len]; exact lowD_len hl m (by omega) _ hk
    · rw [lowD_other wd st m e]; exact lowD_len hl m (by omega) k hk
theorem stL_same {wd len h : Nat} {st st' : Nat → List UInt8} (sb sc : Nat → Nat) (h0 : 0 < len) (h1 : ∀ k, k < 16 → ((st k).length = (st' k).length)) : stL wd ⟨st, h⟩ sb sc = stL wd ⟨st', h⟩ sb sc := by
  unfold stL
  congr 2
  refine List.map_congr_left fun k hk => ?_
  have hk' := List.mem_range.1 hk
  have e := h1 k hk'
  have e2 : (st k).isEmpty = (st' k).isEmpty := by
    cases ha : st k with
    | nil => cases hb : st' k with
      | nil => rfl
      | cons _ _ => rw [ha, hb] at e; simp at e
    | cons _ _ => cases hb : st' k with
      | nil => rw [ha, hb] at e; simp at e
      | cons _ _ => rfl
  show Value.slice (if (st k).isEmpty then none else some ⟨sb k, 0, none⟩) (st k).length (sc k) = Value.slice (if (st' k).isEmpty then none else some ⟨sb k, 0, none⟩) (st' k).length (sc k)
  rw [e, e2]
theorem lowD_out {wd : Nat} {st : Nat → List UInt8} : ∀ m, m ≤ wd → ∀ k, wd ≤ k → lowD wd st m k = st k
  | 0, _, k, _ => rfl
  | m + 1, hm, k, hk => by rw [lowD_other wd st m (by omega)]; exact lowD_out m (by omega) k hk
/-- What results ends with. -/
def ResEnd (w : World) (gs wd : Nat) (L : List (List UInt8)) (e : Ending) (w' : World) : Prop := ∃ c, e = .returned (.slice (some ⟨w.heap.size, 0, none⟩) wd c) ∧ Blk w' w.heap.size (L.map sv) 9 ∧ Below gs w w'
set_option maxRecDepth 100000 in
set_option maxHeartbeats 16000000 in
theorem results_any {gs wd len : Nat} {S : Sts} {sb sc : Nat → Nat} {sr : Nat → List Value} (w : World) (hM : StM w gs wd S sb sc sr) (hs : Stc S.st wd len) (hf : ∀ k, k < wd → S.st k ≠ []) (hw : wd ≤ len) (hw16 : wd ≤ 16) (hl5 : len ≤ 1000000) (ht : PTab 0 w) (hg0 : 0 < gs) :
    Calls Tryd.prog 68 #[.pointer (some ⟨gs, 0, none⟩)] w (ResEnd w gs wd (resF wd S.st wd)) := by
  have hll : ∀ k, k < wd → (S.st k).length = len := fun k hk => (hs.len k hk).resolve_left (hf k hk)
  obtain ⟨st, hst⟩ : ∃ s, s = S.st := ⟨_, rfl⟩
  have hlen : ∀ m, m ≤ wd → ∀ k, k < wd → (lowD wd st m k).length = len := fun m hm k hk => lowD_len (by rw [hst]; exact hll) m hm k hk
  have hlenH := Lib.hid hlen
  have hli : Hid (∀ m, m ≤ wd → LI wd len m (lowD wd st m)) := fun m hm => (li_run (by rw [hst]; exact hs) (by rw [hst]; exact hf) hw m hm).1
  have hTH : Hid (∀ W, Below gs w W → PTab 0 W) := fun W h => ht.below h hg0
  have hStL : Hid (∀ m, m ≤ wd → 0 < wd → stL wd ⟨lowD wd st m, S.ht⟩ sb sc = stL wd S sb sc) := fun m hm h0 => by
    have : stL wd ⟨lowD wd st m, S.ht⟩ sb sc = stL wd ⟨st, S.ht⟩ sb sc := stL_same (len := len) sb sc (by omega) fun k hk => by
      by_cases hkw : k < wd
      · rw [hlen m hm k hkw, hst, hll k hkw]
      · rw [lowD_out m hm k (by omega)]
    rw [this, hst]
  have hinj : Hid (∀ j k, j < wd → k < wd → sb j = sb k → j = k) := fun j k hj hk e => hM.inj j k hj hk (hf j hj) (hf k hk) e
  have hsbg : Hid (∀ k, k < wd → gs < sb k) := fun k hk => (hM.row k hk (hf k hk)).1
  have hcap : Hid (∀ k, k < wd → len ≤ sc k) := fun k hk => by have := hM.cap k hk; rw [hll k hk] at this; exact this
  have hO0 : Hid (Blk w gs (stL wd S sb sc) 94) := hM.out
  have hgsl : Hid (gs < w.heap.size) := hM.out.lt
  have hR0 : Hid (∀ k, k < wd → Blk w (sb k) ((lowD wd st 0 k).map bv ++ sr k) 5) := fun k hk => by show Blk _ _ ((st k).map bv ++ _) _; rw [hst]; exact (hM.row k hk (hf k hk)).2
  have p0 : w.cell? ⟨gs, 0, none⟩ = some (.int .i64 wd) := hO0.out.cell (j := 0) rfl
  obtain ⟨W1, hW1⟩ : ∃ W1, W1 = w.alloc (.cells (madeCells #[.string .empty] wd) 9) := ⟨_, rfl⟩
  have hb1 : Hid (Below w.heap.size w W1) := by show Below _ _ _; rw [hW1]; exact (Below.refl _ _).alloc (Nat.le_refl _) _
  have hZ1 : Hid (Blk W1 w.heap.size ((resF wd st 0).map sv) 9) := by
    show Blk _ _ _ _
    rw [hW1, resF_zero, made_strs]
    exact Blk.new _ _ _
  have hmk := run_make_row' (P := Tryd.prog) 32 9 (.string .empty) 16 Tryd.underlying32 infoStr7 rfl .i64 .i64 wd (by omega) (by omega) w
  rw [← hW1] at hmk
  have hS1 : Hid (∀ k, k < wd → Blk W1 (sb k) ((lowD wd st 0 k).map bv ++ sr k) 5) := fun k hk => (hR0.out k hk).below hb1.out (hR0.out k hk).lt
  have hO1 : Hid (Blk W1 gs (stL wd S sb sc) 94) := hO0.out.below hb1.out hgsl.out
  have q0 : W1.cell? ⟨gs, 0, none⟩ = some (.int .i64 wd) := hO1.out.cell (j := 0) rfl
  have hBg1 : Hid (Below gs w W1) := hb1.out.mono (Nat.le_of_lt hgsl.out)
  have hap : Hid (∀ k, k < wd → sb k < w.heap.size) := fun k hk => (hR0.out k hk).lt
  rw [← hst]
  obtain ⟨ga, hga⟩ : ∃ x, x = w.heap.size := ⟨_, rfl⟩
  rw [← hga] at hZ1 hap
  have hgag : Hid (gs < ga) := by show _ < _; rw [hga]; exact hgsl.out
  have hst0 := Lib.hid hst
  have hgaH := Lib.hid hga
  clear hll hlen hM hs hf ht hst hR0 hO0 hW1
  go_enter Tryd.func68, Tryd.ntmps68
  go_wp2_with fail
  rw [← hga]
  clear hmk p0 q0 hga hgsl hb1
  go_loopw [4] (fun i wr => ∃ m : Nat, m ≤ wd ∧ i = .int .i64 ((wd : Int) - 1 - m) ∧ Hid (Blk wr gs (stL wd S sb sc) 94) ∧ Hid (∀ k, k < wd → Blk wr (sb k) ((lowD wd st m k).map bv ++ sr k) 5) ∧ Hid (Blk wr ga ((resF wd st m).map sv) 9) ∧ Hid (Below gs w wr)) (fun i _ => (intOf i + 1).toNat)
  case atStart => exact ⟨0, by omega, by go_num, hO1, hS1, hZ1, hBg1⟩
  case round =>
    clear hO1 hS1 hZ1 hBg1
    obtain ⟨m, hm, rfl, hO, hS, hZ, hBg⟩ := hrel
    by_cases hlt : m < wd
    · obtain ⟨k, hk⟩ : ∃ k, k = wd - 1 - m := ⟨_, rfl⟩
      have ek : (wd : Int) - 1 - (m : Int) = (k : Int) := by omega
      have hkw : k < wd := by omega
      have hkH := Lib.hid hk
      rw [ek]
      have tk0 : 0 ≤ (k : Int) := by omega
      have tk16 : (k : Int) < 16 := by omega
      have hlk := hlenH.out m hm k hkw
      obtain ⟨r, hr⟩ : ∃ r, r = lowD wd st m k := ⟨_, rfl⟩
      have hrl : r.length = len := by rw [hr]; exact hlk
      have hstk : Hid (stL wd ⟨lowD wd st m, S.ht⟩ sb sc = stL wd S sb sc) := hStL.out m hm (by omega)
      have hne : ∀ t, t < wd → (lowD wd st m t).isEmpty = false := fun t ht => by
        have := (hli.out m hm).full t ht
        cases h : lowD wd st m t with
        | nil => exact absurd h this
        | cons _ _ => rfl
      have hLt : ∀ t, t < wd → (stL wd S sb sc)[2 + t]? = some (.slice (some ⟨sb t, 0, none⟩) len (sc t)) := fun t ht => by
        rw [← hstk.out, stL_at (show t < 16 by omega)]
        show some (Value.slice (if (lowD wd st m t).isEmpty then _ else _) (lowD wd st m t).length _) = _
        rw [hne t ht, hlenH.out m hm t ht]
        rfl
      have CL := lower_any (lowD wd st m) gs (sb k) wd (k + 1) (sc k) (stL wd S sb sc) (fun t => some ⟨sb t, 0, none⟩) sc r (sr k) wr hO.out rfl (fun t ht => by rw [hLt t ht, hlenH.out m hm t ht]) (by have := hsbg.out k hkw; omega) (by have := hS.out k hkw; rw [← hr] at this; exact this)
        (fun t _ ht => by rw [hlenH.out m hm t ht, hrl]; exact Nat.le_refl _) (fun t h1 h2 W hW => by
          have hb := hW.blk (hS.out t h2) (by
            intro hh
            have := hinj.out t k h2 hkw (List.mem_singleton.1 hh)
            omega)
          have h4 := hb.rds 0 (lowD wd st m t).length
          rw [List.drop_zero, List.take_append_of_le_length (by rw [List.length_map]; exact Nat.le_refl _), List.take_of_length_le (by rw [List.length_map]; exact Nat.le_refl _)] at h4
          exact h4) (by omega) hw16 (by omega) (by omega) (fun W hW => hTH.out W (hBg.out.trans (hW.below (fun x hx => by have := hsbg.out k hkw; simp at hx; omega) (Nat.le_of_lt hO.out.lt))))
      have eL : low (lowD wd st m) r (k + 1) (wd - (k + 1)) = lowD wd st (m + 1) k := by
        rw [hr, hk, lowD_at, show wd - 1 - m + 1 = wd - m by omega, show wd - (wd - m) = m by omega]
      rw [eL, hrl] at CL
      have CLH := Lib.hid CL
      have pk : wr.cell? ⟨gs, 2 + k, none⟩ = some (.slice (some ⟨sb k, 0, none⟩) len (sc k)) := hO.out.cell (hLt k hkw)
      have hLtk := Lib.hid (hLt k hkw)
      clear CL eL hr hrl hlk hk hne hLt
      go_wp2_with fail
      refine CLH.out.mono ?_
      rintro e w3 ⟨rfl, hRk, hC3⟩
      have hRkH := Lib.hid hRk
      have hC3H := Lib.hid hC3
      have hO3 : Hid (Blk w3 gs (stL wd S sb sc) 94) := hC3.blk hO.out (by have := hsbg.out k hkw; simp; omega)
      have hZ3 : Hid (Blk w3 ga ((resF wd st m).map sv) 9) := hC3.blk hZ.out (by have := hap.out k hkw; simp; omega)
      have hB3 : Hid (Below gs w w3) := hBg.out.trans (hC3.below (fun x hx => by have := hsbg.out k hkw; simp at hx; omega) (Nat.le_of_lt hO.out.lt))
      have hS3 : Hid (∀ t, t < wd → Blk w3 (sb t) ((lowD wd st (m + 1) t).map bv ++ sr t) 5) := fun t ht => by
        by_cases e : t = k
        · subst e; exact hRkH.out
        · rw [lowD_other wd st m (by have := hkH.out; omega)]
          exact hC3H.out.blk (hS.out t ht) (fun hh => e (hinj.out t k ht hkw (List.mem_singleton.1 hh)))
      obtain ⟨r, hr⟩ : ∃ r, r = lowD wd st (m + 1) k := ⟨_, rfl⟩
      have hrl : Hid (r.length = len) := by show _ = _; rw [hr]; exact hlenH.out (m + 1) (by omega) k hkw
      rw [← hr] at hRkH
      have hwc : Hid (len ≤ sc k) := hcap.out k hkw
      have pk3 : ∀ q : ExtOf w3.drew, q.world.cell? ⟨gs, 2 + k, none⟩ = some (.slice (some ⟨sb k, 0, none⟩) len (sc k)) := fun q => (hO3.out.drew.below q.ext hO3.out.lt).cell hLtk.out
      have p03 : ∀ q : ExtOf w3.drew, q.world.cell? ⟨gs, 0, none⟩ = some (.int .i64 wd) := fun q => (hO3.out.drew.below q.ext hO3.out.lt).cell (j := 0) rfl
      have hrd3 : Hid (∀ q : ExtOf w3.drew, Rds q.world q.world.heap.size (if sc k = wd then some (⟨sb k, 0, none⟩ : Addr) else some ⟨sb k, wd, none⟩) ((r.drop wd).map bv)) := fun q => by
        by_cases e : sc k = wd
        · have h0 : r.drop wd = [] := List.drop_eq_nil_of_le (by have := hrl.out; have := hwc.out; omega)
          rw [h0]
          exact Rds.empty
        · rw [if_neg e]
          have hb := (hRkH.out.drew.below q.ext hRkH.out.lt).rds wd (r.length - wd)
          rw [List.drop_append_of_le_length (by rw [List.length_map]; have := hrl.out; omega), ← List.map_drop, List.take_append_of_le_length (by rw [List.length_map, List.length_drop]; exact Nat.le_refl _), List.take_of_length_le (by rw [List.length_map, List.length_drop]; exact Nat.le_refl _)] at hb
          exact hb
      have hnext : Hid ((resF wd st m).set k (r.drop wd) = resF wd st (m + 1)) := by
        show _ = _
        rw [hr, hkH.out]; exact resF_next st hlt
      have hfit : Hid (∀ S8 : ByteArray, k + (Value.string S8).cells.size ≤ ((resF wd st m).map sv).length) := fun S8 => by
        show k + 1 ≤ _
        rw [List.length_map, resF_len]; omega
      have twl : (wd : Int) ≤ (len : Int) := by omega
      have twl2 : (len : Int) ≤ (sc k : Int) := by have := hwc.out; omega
      have twk : (k : Int) < (wd : Int) := by omega
      have tw0 : 0 ≤ (wd : Int) := by omega
      have twc3 : (wd : Int) ≤ (sc k : Int) := by omega
      have hdl : Hid (len - wd = (r.drop wd).length) := by show _ = _; rw [List.length_drop, hrl.out]
      clear hRk hC3 hr pk hO hS hZ CLH
      generalize sc k = ck at pk3 hrd3 twl2 twc3
      generalize sb k = bk at pk3 hrd3
      obtain ⟨A5, ha5⟩ : ∃ X, (if ck = wd then some (⟨bk, 0, none⟩ : Addr) else some ⟨bk, wd, none⟩) = X := ⟨_, rfl⟩
      rw [ha5] at hrd3
      go_wp2_with fail
      refine wp_region_planM [15] [(true, 0), (true, 1), (true, 2), (true, 3), (true, 4), (true, 5), (true, 6), (true, 7), (true, 8), (true, 9), (true, 10), (true, 11), (true, 12), (true, 13), (true, 14), (false, 15)] (by decide) (by kernel_rfl) (by kernel_rfl) (by decide) (by intro c a d v w h; cases d <;> exact h) ?_
      change wpPlanM _ _ _ _ _ _ w3.drew
      iterate 13 (refine wpPlanM_plain rfl (fun K hK => ?_); go_simp; refine hK _ ?_; clear hK K)
      refine wpPlanM_runW rfl (by rfl) _ (fun q => conv_run7 _ rfl (r.drop wd) A5 (len - wd) (ck - wd) _ hdl.out rfl q.world (hrd3.out q)) ?_
      iterate 1 (refine wpPlanM_plain rfl (fun K hK => ?_); go_simp; refine hK _ ?_; clear hK K)
      clear pk3 p03
      refine wpPlanM_call rfl (fun K hK => ?_)
      refine wpList_blk_store rfl 9 _ _ rfl k (.string (bs (r.drop wd))) rfl rfl hZ3.out.drew size_str (hfit.out _) (one_str _) ?_
      intro w5 hw5 ho5
      refine wpList_end (planPostL_normal ⟨.inl (by simp), hK _ _ ?_⟩)
      clear hK K
      refine wpPlanM_nil ?_
      have f1 : Hid (Blk w5 gs (stL wd S sb sc) 94) := hO3.out.drew.only ho5 (by have := hgag.out; omega)
      have f2 : Hid (∀ t, t < wd → Blk w5 (sb t) ((lowD wd st (m + 1) t).map bv ++ sr t) 5) := fun t ht => (hS3.out t ht).drew.only ho5 (by have := hap.out t ht; omega)
      have f3 : Hid (Blk w5 ga ((resF wd st (m + 1)).map sv) 9) := by
        have h := hw5.out
        rw [show (Value.string (bs (r.drop wd))).cells.toList = [sv (r.drop wd)] from rfl, splice_set _ _ _ (by rw [List.length_map, resF_len]; exact hkw), ← List.map_set, hnext.out] at h
        exact h
      have f4 : Hid (Below gs w w5) := hB3.out.drew.trans (ho5.below (Nat.le_of_lt hgag.out))
      clear hw5 ho5 hO3 hS3 hZ3 hB3 hrd3
      go_wp2_with fail
      go_roundw
      case rel => exact ⟨m + 1, by omega, by go_num, f1, f2, f3, f4⟩
      case measure => simp [intOf] <;> omega
    · obtain rfl : wd = m := by omega
      have ek : (wd : Int) - 1 - (wd : Int) = -1 := by omega
      rw [ek]
      clear hO hS hlt ek
      go_wp2_with fail
      go_ret
      exact ⟨wd, by rw [← hgaH.out]; rfl, by rw [← hgaH.out]; exact hZ.out, hBg.out⟩
end Go.Proofs.YtcnljemnkhmfcaaDoor

namespace Go.Proofs.YtcnljemnkhmfcaaDoor
set_option linter.unusedVariables false
set_option linter.unusedSimpArgs false
open Go.RowKit

/-- The data pieces of a set, with zeros for those that are lost; what the sum of an equation says. -/
def dat0 (D s z : Nat) (ps : List (List UInt8)) : List (List UInt8) := (List.range D).map fun i => if s.testBit i then ps.getD i [] else List.replicate z 0
def sum7 (D : Nat) (Gs : List (List Int)) (s z : Nat) (ps : List (List UInt8)) (k : Nat) : List UInt8 := Gf.vsum (ps.getD (D + k) []) (Gf.comb (par D Gs k) (dat0 D s z ps))
/-- A chunk that is filled up has the pieces of a set. -/
def HasP (D : Nat) (Gs : List (List Int)) (s cnt z : Nat) (ps : List (List UInt8)) (P : List UInt8) : Prop := ∀ k, k < cnt → s.testBit k = true → pce D Gs P z k = ps.getD k []
theorem dat0_len (D s z : Nat) (ps : List (List UInt8)) : (dat0 D s z ps).length = D := by unfold dat0; simp
theorem dat0_get {D s z i : Nat} {ps : List (List UInt8)} (h : i < D) : (dat0 D s z ps)[i]? = some (if s.testBit i then ps.getD i [] else List.replicate z 0) := by unfold dat0; simp [h]
theorem dat0_all {D s z : Nat} {ps : List (List UInt8)} (h : ∀ k, k < D → s.testBit k = true → (ps.getD k []).length = z) : ∀ x ∈ dat0 D s z ps, x.length = z := fun x hx => by
  obtain ⟨i, hi, rfl⟩ := List.mem_map.1 hx
  by_cases hb : s.testBit i = true
  · rw [if_pos hb]; exact h i (List.mem_range.1 hi) hb
  · rw [if_neg hb]; exact List.length_replicate
theorem fit_dat {D s z k : Nat} {Gs : List (List Int)} {ps : List (List UInt8)} (hD : 1 ≤ D) (h : ∀ k, k < D → s.testBit k = true → (ps.getD k []).length = z) : Gf.Fit (par D Gs k) (dat0 D s z ps) := by
  refine ⟨by rw [par_cr, crow_len, dat0_len], fun x hx => ?_⟩
  rw [dat0_all h x hx, List.headD_eq_head?_getD, List.head?_eq_getElem?, dat0_get (by omega)]
  exact (dat0_all h _ (List.mem_of_getElem? (dat0_get (show 0 < D by omega)))).symm
theorem comb_dat {D s z k t : Nat} {Gs : List (List Int)} {ps : List (List UInt8)} (hD : 1 ≤ D) (h : ∀ k, k < D → s.testBit k = true → (ps.getD k []).length = z) (ht : t < z) :
    (Gf.comb (par D Gs k) (dat0 D s z ps)).length = z ∧ (Gf.comb (par D Gs k) (dat0 D s z ps)).getD t 0 = xsum D fun i => Gf.mul (cr D Gs (D + k) i) (if s.testBit i then (ps.getD i []).getD t 0 else 0) := by
  have h0 : ((dat0 D s z ps).headD []).length = z := by
    rw [List.headD_eq_head?_getD, List.head?_eq_getElem?, dat0_get (by omega)]
    exact dat0_all h _ (List.mem_of_getElem? (dat0_get (show 0 < D by omega)))
  unfold Gf.comb
  rw [h0]
  unfold Gf.combN
  refine ⟨by simp, ?_⟩
  rw [List.getD_eq_getElem?_getD, List.getElem?_map, List.getElem?_range ht]
  show Gf.combAt _ _ t = _
  have := combAt_sum (par D Gs k) (dat0 D s z ps) t D (by rw [par_cr, crow_len]; exact Nat.le_refl _) (by rw [dat0_len]; exact Nat.le_refl _)
  rw [List.take_of_length_le (by rw [par_cr, crow_len]; exact Nat.le_refl _)] at this
  rw [this]
  refine xsum_congr fun i hi => ?_
  rw [par_cr, crow_at D Gs _ hi, el_get (dat0_get hi)]
  congr 1
  by_cases hb : s.testBit i = true
  · rw [if_pos hb, if_pos hb]
  · rw [if_neg hb, if_neg hb, List.getD_eq_getElem?_getD, List.getElem?_replicate]
    split <;> rfl
/-- Who is perpendicular: what an equation says at one byte of a chunk that has the pieces. -/
def zV (wd t : Nat) (y : Nat → Nat → UInt8) : Nat → UInt8 := fun j => if j < wd then y j t else if j = wd + t then 1 else 0
theorem dot_zV {wd z t : Nat} {y : Nat → Nat → UInt8} {r : Nat → UInt8} (ht : t < z) : dot7 (wd + z) r (zV wd t y) = (xsum wd fun j => Gf.mul (r j) (y j t)) ^^^ r (wd + t) := by
  have h1 : ∀ m, m ≤ z → dot7 (wd + m) r (zV wd t y) = (xsum wd fun j => Gf.mul (r j) (y j t)) ^^^ (if t < m then r (wd + t) else 0) := by
    intro m
    induction m with
    | zero =>
      intro _
      rw [if_neg (by omega), UInt8.xor_zero]
      exact xsum_congr fun j hj => by unfold zV; rw [if_pos (show j < wd from hj)]
    | succ m ih =>
      intro hm
      show dot7 (wd + m) r (zV wd t y) ^^^ Gf.mul (r (wd + m)) (zV wd t y (wd + m)) = _
      rw [ih (by omega)]
      unfold zV
      rw [if_neg (show ¬ wd + m < wd by omega)]
      by_cases e : m = t
      · subst e
        simp only [Nat.lt_irrefl, if_false, if_true, Gf.mul_one, UInt8.xor_zero, Nat.lt_succ_self]
      · rw [if_neg (show ¬ wd + m = wd + t by omega), Gf.mul_zero, UInt8.xor_zero]
        by_cases h : t < m
        · rw [if_pos h, if_pos (by omega)]
        · rw [if_neg h, if_neg (by omega)]
  rw [h1 z (Nat.le_refl _), if_pos ht]
theorem eqn_perp {D N s z k t : Nat} {Gs : List (List Int)} {ps : List (List UInt8)} {P : List UInt8} (hD : 1 ≤ D) (hk : k < N) (hb : s.testBit (D + k) = true) (ht : t < z) (hz : ∀ k, k < D + N → s.testBit k = true → (ps.getD k []).length = z) (hP : HasP D Gs s (D + N) z ps P) (hPl : P.length = D * z) :
    dot7 ((misL s D).length + z) (rfn (eqn (PM (par D Gs) N) (misL s D) (sum7 D Gs s z ps) k)) (zV (misL s D).length t fun j t => P.getD ((misL s D).getD j 0 * z + t) 0) = 0 := by
  have hzD : ∀ k, k < D → s.testBit k = true → (ps.getD k []).length = z := fun k h1 h2 => hz k (by omega) h2
  obtain ⟨hc1, hc2⟩ := comb_dat (k := k) (Gs := Gs) hD hzD ht
  have hlen : ((misL s D).map fun i => el (PM (par D Gs) N) k i).length = (misL s D).length := List.length_map _
  rw [dot_zV ht]
  have e1 : (xsum (misL s D).length fun j => Gf.mul (rfn (eqn (PM (par D Gs) N) (misL s D) (sum7 D Gs s z ps) k) j) (P.getD ((misL s D).getD j 0 * z + t) 0)) = xsum D fun i => if s.testBit i then 0 else Gf.mul (cr D Gs (D + k) i) (P.getD (i * z + t) 0) := by
    have := eqn_dot (D := D) (s := s) (su := sum7 D Gs s z ps) (Gs := Gs) hk (fun j => P.getD ((misL s D).getD j 0 * z + t) 0)
    unfold dot7 at this
    rw [this, xsum_mis s (fun i => Gf.mul (cr D Gs (D + k) i) (P.getD (i * z + t) 0)) D]
  have e2 : rfn (eqn (PM (par D Gs) N) (misL s D) (sum7 D Gs s z ps) k) ((misL s D).length + t) = (xsum D fun i => Gf.mul (cr D Gs (D + k) i) (P.getD (i * z + t) 0)) ^^^ xsum D fun i => Gf.mul (cr D Gs (D + k) i) (if s.testBit i then P.getD (i * z + t) 0 else 0) := by
    show (eqn _ _ _ k).getD _ 0 = _
    unfold eqn
    rw [List.getD_eq_getElem?_getD, List.getElem?_append_right (by rw [hlen]; omega), hlen, Nat.add_sub_cancel_left, ← List.getD_eq_getElem?_getD]
    unfold sum7
    rw [Gf.getD_vsum, hc2, ← hP (D + k) (by omega) hb, pce_at ht]
    congr 1
    refine xsum_congr fun i hi => ?_
    by_cases h : s.testBit i = true
    · rw [if_pos h, if_pos h, ← hP i (by omega) h, pce_unit hi hPl, List.getD_eq_getElem?_getD, List.getElem?_take, if_pos ht, List.getElem?_drop, ← List.getD_eq_getElem?_getD]
    · rw [if_neg h, if_neg h]
  rw [e1, e2, ← xsum_add, ← xsum_add]
  refine xsum_none _ fun i hi => ?_
  by_cases h : s.testBit i = true
  · rw [if_pos h, if_pos h, UInt8.xor_self, UInt8.xor_zero]
  · rw [if_neg h, if_neg h, Gf.mul_zero, UInt8.xor_zero, UInt8.xor_self]
/-- What solve makes of the stairs: the data pieces. -/
def solD (D s z : Nat) (ps : List (List UInt8)) (R : List (List UInt8)) : List (List UInt8) := (List.range D).map fun i => if s.testBit i then ps.getD i [] else R.getD (misL s i).length []
theorem flat_get {L : List (List UInt8)} {z : Nat} (h : ∀ x ∈ L, x.length = z) : L.flatten.length = L.length * z ∧ ∀ i t, i < L.length → t < z → L.flatten.getD (i * z + t) 0 = (L.getD i []).getD t 0 := by
  induction L with
  | nil => exact ⟨by simp, fun i t hi => by simp at hi⟩
  | cons x L ih =>
    obtain ⟨h1, h2⟩ := ih fun y hy => h y (List.mem_cons_of_mem _ hy)
    have hx := h x (List.mem_cons_self ..)
    refine ⟨by rw [List.flatten_cons, List.length_append, h1, hx, List.length_cons, Nat.succ_mul]; omega, fun i t hi ht => ?_⟩
    rw [List.flatten_cons, List.getD_eq_getElem?_getD]
    cases i with
    | zero => rw [Nat.zero_mul, Nat.zero_add, List.getElem?_append_left (by rw [hx]; exact ht)]; rfl
    | succ i =>
      rw [List.getElem?_append_right (by rw [hx, Nat.succ_mul]; omega), hx, show (i + 1) * z + t - z = i * z + t by rw [Nat.succ_mul]; omega, ← List.getD_eq_getElem?_getD, h2 i t (by simp at hi; omega) ht]
      rfl
theorem solve_is {D N s z : Nat} {Gs : List (List Int)} {ps : List (List UInt8)} {P : List UInt8} (hD : 1 ≤ D) (hz : ∀ k, k < D + N → s.testBit k = true → (ps.getD k []).length = z) (hP : HasP D Gs s (D + N) z ps P) (hPl : P.length = D * z)
    (hfull : (runS (misL s D).length noS (eqL (PM (par D Gs) N) (misL s D) (sum7 D Gs s z ps) (s / 2 ^ D) N 0)).ht = (misL s D).length) (hsl : ∀ k, k < N → s.testBit (D + k) = true → (sum7 D Gs s z ps k).length = z) :
    (solD D s z ps (resF (misL s D).length (runS (misL s D).length noS (eqL (PM (par D Gs) N) (misL s D) (sum7 D Gs s z ps) (s / 2 ^ D) N 0)).st (misL s D).length)).flatten = P := by
  obtain ⟨wd, hwd⟩ : ∃ wd, wd = (misL s D).length := ⟨_, rfl⟩
  have hrl : ∀ r ∈ eqL (PM (par D Gs) N) (misL s D) (sum7 D Gs s z ps) (s / 2 ^ D) N 0, r.length = wd + z := fun r hr => by
    obtain ⟨t, _, h2, h3, rfl⟩ := eqL_mem.1 hr
    show List.length (_ ++ _) = _
    rw [List.length_append, List.length_map, hwd, hsl t h2 (by rw [Nat.testBit_div_two_pow, Nat.add_comm] at h3; exact h3)]
  have hperp : ∀ t, t < z → ∀ r ∈ eqL (PM (par D Gs) N) (misL s D) (sum7 D Gs s z ps) (s / 2 ^ D) N 0, dot7 (wd + z) (rfn r) (zV wd t fun j t => P.getD ((misL s D).getD j 0 * z + t) 0) = 0 := fun t ht r hr => by
    obtain ⟨k, _, h2, h3, rfl⟩ := eqL_mem.1 hr
    rw [hwd]
    exact eqn_perp hD h2 (by rw [Nat.testBit_div_two_pow, Nat.add_comm] at h3; exact h3) ht hz hP hPl
  rw [← hwd] at hfull ⊢
  generalize eqL (PM (par D Gs) N) (misL s D) (sum7 D Gs s z ps) (s / 2 ^ D) N 0 = E at hrl hperp hfull ⊢
  obtain ⟨h1, h2, h3, h4⟩ := run_full (wd := wd) (len := wd + z) (Nat.le_add_right _ _) hrl
  rw [h2] at hfull
  have hf := hts_all hfull
  obtain ⟨hli, hsat⟩ := li_run h1 hf (Nat.le_add_right _ _) wd (Nat.le_refl _)
  have hres : ∀ j t, j < wd → t < z → ((resF wd (runS wd noS E).st wd).getD j []).getD t 0 = P.getD ((misL s D).getD j 0 * z + t) 0 := fun j t hj ht => by
    have hv := li_value hli (Nat.le_add_right _ _) (y := fun j t => P.getD ((misL s D).getD j 0 * z + t) 0) (t := t) (z := zV wd t fun j t => P.getD ((misL s D).getD j 0 * z + t) 0) (by omega) (fun j hj => by unfold zV; rw [if_pos hj]) (by unfold zV; rw [if_neg (by omega), if_pos rfl]) (fun j h1 h2 => by unfold zV; rw [if_neg (by omega), if_neg h2]) (hsat _ (h4 _ (hperp t ht))) hj
    have e : (resF wd (runS wd noS E).st wd).getD j [] = (lowD wd (runS wd noS E).st wd j).drop wd := by
      unfold resF
      rw [List.getD_eq_getElem?_getD, List.getElem?_map, List.getElem?_range hj]
      show (if wd - wd ≤ j then _ else _) = _
      rw [if_pos (by omega)]
    rw [e, List.getD_eq_getElem?_getD, List.getElem?_drop, ← List.getD_eq_getElem?_getD]
    exact hv
  have hll : ∀ k, k < wd → ((runS wd noS E).st k).length = wd + z := fun k hk => (h1.len k hk).resolve_left (hf k hk)
  have hlen : ∀ j, j < wd → ((resF wd (runS wd noS E).st wd).getD j []).length = z := fun j hj => by
    unfold resF
    rw [List.getD_eq_getElem?_getD, List.getElem?_map, List.getElem?_range hj]
    show (if wd - wd ≤ j then _ else _ : List UInt8).length = _
    rw [if_pos (by omega), List.length_drop, lowD_len hll wd (Nat.le_refl _) j hj]
    omega
  generalize resF wd (runS wd noS E).st wd = R at hres hlen ⊢
  have hmis : ∀ i, i < D → s.testBit i = false → (misL s i).length < wd ∧ (misL s D).getD (misL s i).length 0 = i := fun i hi hb => by
    have := mis_of hi hb
    refine ⟨by rw [hwd]; exact (List.getElem?_eq_some_iff.1 this).1, ?_⟩
    rw [List.getD_eq_getElem?_getD, this]; rfl
  have hgetD : ∀ i, i < D → (solD D s z ps R).getD i [] = if s.testBit i then ps.getD i [] else R.getD (misL s i).length [] := fun i hi => by
    unfold solD
    rw [List.getD_eq_getElem?_getD, List.getElem?_map, List.getElem?_range hi]
    rfl
  have hsd : ∀ x ∈ solD D s z ps R, x.length = z := fun x hx => by
    obtain ⟨i, hi, rfl⟩ := List.mem_map.1 hx
    have hi' := List.mem_range.1 hi
    cases hb : s.testBit i with
    | true => exact hz i (by omega) hb
    | false => exact hlen _ (hmis i hi' hb).1
  obtain ⟨f1, f2⟩ := flat_get hsd
  have hsl : (solD D s z ps R).length = D := by unfold solD; simp
  rw [hsl] at f1 f2
  refine row_ext (n := D * z) f1 hPl fun q hq => ?_
  rcases Nat.eq_zero_or_pos z with h0 | h0
  · rw [h0] at hq; omega
  · obtain ⟨i, t, hi, ht, rfl⟩ : ∃ i t, i < D ∧ t < z ∧ q = i * z + t := ⟨q / z, q % z, Nat.div_lt_of_lt_mul (by rw [Nat.mul_comm]; exact hq), Nat.mod_lt _ h0, by rw [Nat.mul_comm]; exact (Nat.div_add_mod q z).symm⟩
    rw [f2 i t hi ht, hgetD i hi]
    cases hb : s.testBit i with
    | true => 
      rw [if_pos rfl, ← hP i (by omega) hb, pce_unit hi hPl, List.getD_eq_getElem?_getD, List.getElem?_take, if_pos ht, List.getElem?_drop, ← List.getD_eq_getElem?_getD]
    | false =>
      obtain ⟨m1, m2⟩ := hmis i hi hb
      rw [if_neg (by decide), hres _ t m1 ht, m2]
end Go.Proofs.YtcnljemnkhmfcaaDoor
