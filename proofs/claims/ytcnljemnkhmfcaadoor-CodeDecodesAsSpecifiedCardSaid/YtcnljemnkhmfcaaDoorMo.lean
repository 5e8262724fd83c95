/-
  Matrices of a call's own, whose rows lie in blocks apart; fill.
-/
import Derived.Test.YtcnljemnkhmfcaaDoorMc
namespace Go.Proofs.YtcnljemnkhmfcaaDoor
set_option linter.unusedVariables false
set_option linter.unusedSimpArgs false
open Go.RowKit

theorem one_u8b (b : UInt8) : ∀ u ∈ (bv b).cells.toList, u.oneCell' = true := one_int .u8 _
/-- A row of so many elements F j. -/
def rowF (F : Nat → UInt8) (n : Nat) : List UInt8 := (List.range n).map F
theorem rowF_len (F : Nat → UInt8) (n : Nat) : (rowF F n).length = n := by simp [rowF]
theorem rowF_get (F : Nat → UInt8) {n i : Nat} (h : i < n) : (rowF F n)[i]? = some (F i) := by simp [rowF, h]
/-- What a row holds when its first j elements have been set. -/
def mixF (F : Nat → UInt8) (Y : List UInt8) (j : Nat) : List UInt8 := (List.range j).map F ++ Y.drop j
theorem mixF_len (F : Nat → UInt8) (Y : List UInt8) (j : Nat) (h : j ≤ Y.length) : (mixF F Y j).length = Y.length := by
  unfold mixF; simp; omega
theorem mixF_zero (F : Nat → UInt8) (Y : List UInt8) : mixF F Y 0 = Y := by simp [mixF]
theorem mixF_all (F : Nat → UInt8) (Y : List UInt8) (j : Nat) (h : Y.length ≤ j) : mixF F Y j = rowF F j := by
  unfold mixF rowF; rw [List.drop_eq_nil_of_le h, List.append_nil]
theorem mixF_next (F : Nat → UInt8) (Y : List UInt8) (j : Nat) (h : j < Y.length) : splice ((mixF F Y j).map bv) j [bv (F j)] = (mixF F Y (j + 1)).map bv := by
  rw [splice_set _ _ _ (by rw [List.length_map, mixF_len F Y j (by omega)]; exact h)]
  unfold mixF
  rw [List.drop_eq_getElem_cons h, List.range_succ]
  generalize Y[j] = y
  generalize Y.drop (j + 1) = Z
  rw [List.map_append, List.map_append, List.map_append, List.map_append, List.set_append_right _ _ (by simp)]
  simp
theorem mixF_get_lt (F : Nat → UInt8) (Y : List UInt8) (j i : Nat) (h : i < j) : (mixF F Y j)[i]? = some (F i) := by
  unfold mixF
  rw [List.getElem?_append_left (by simpa using h)]
  simp [h]
theorem mixF_get_ge (F : Nat → UInt8) (Y : List UInt8) (j i : Nat) (h : j ≤ i) : (mixF F Y j)[i]? = Y[i]? := by
  unfold mixF
  rw [List.getElem?_append_right (by simpa using h), List.getElem?_drop]
  congr 1
  simp
  omega

/-- The slices of rows that lie in blocks of their own. -/
def rvals (bs : List Nat) (M : List (List UInt8)) : List Value := List.zipWith (fun b m => Value.slice (some ⟨b, 0, none⟩) m.length m.length) bs M
/-- The rows M, each in a block of the call's own; their slices stand in block g, and behind them the values 'rest'. -/
structure Om (w : World) (base g : Nat) (bs : List Nat) (M : List (List UInt8)) (rest : List Value) : Prop where
  len : bs.length = M.length
  out : Blk w g (rvals bs M ++ rest) 57
  row : ∀ (i b : Nat) (m : List UInt8), bs[i]? = some b → M[i]? = some m → Blk w b (m.map bv) 5
  low : base ≤ g
  lows : ∀ b ∈ bs, base ≤ b
  ne : ∀ b ∈ bs, b ≠ g
  nodup : bs.Nodup
  caps : ∀ m ∈ M, m.length ≤ maxLen
theorem rvals_len {bs : List Nat} {M : List (List UInt8)} (h : bs.length = M.length) : (rvals bs M).length = M.length := by
  unfold rvals; rw [List.length_zipWith]; omega
theorem rvals_get {bs : List Nat} {M : List (List UInt8)} {i b : Nat} {m : List UInt8} (hb : bs[i]? = some b) (hm : M[i]? = some m) : (rvals bs M)[i]? = some (.slice (some ⟨b, 0, none⟩) m.length m.length) := by
  unfold rvals; rw [List.getElem?_zipWith, hb, hm]
theorem rvals_snoc {bs : List Nat} {M : List (List UInt8)} (h : bs.length = M.length) (b : Nat) (m : List UInt8) : rvals (bs ++ [b]) (M ++ [m]) = rvals bs M ++ [.slice (some ⟨b, 0, none⟩) m.length m.length] := by
  unfold rvals; rw [List.zipWith_append h]; rfl
section
variable {w w' : World} {base g : Nat} {bs : List Nat} {M : List (List UInt8)} {rest : List Value}
theorem Om.keep (h : Om w base g bs M rest) (hb : Below w.heap.size w w') : Om w' base g bs M rest :=
  ⟨h.len, h.out.below hb h.out.lt, fun i b m hi hm => (h.row i b m hi hm).below hb (h.row i b m hi hm).lt, h.low, h.lows, h.ne, h.nodup, h.caps⟩
theorem Om.at (h : Om w base g bs M rest) {i : Nat} {m : List UInt8} (hm : M[i]? = some m) : ∃ b, bs[i]? = some b ∧ b ≠ g ∧ base ≤ b ∧ w.cell? ⟨g, i, none⟩ = some (.slice (some ⟨b, 0, none⟩) m.length m.length) ∧ Blk w b (m.map bv) 5 := by
  have hl := (List.getElem?_eq_some_iff.1 hm).1
  obtain ⟨b, hb⟩ : ∃ b, bs[i]? = some b := ⟨_, List.getElem?_eq_getElem (by rw [h.len]; exact hl)⟩
  have hmem := List.mem_of_getElem? hb
  refine ⟨b, hb, h.ne b hmem, h.lows b hmem, h.out.cell ?_, h.row i b m hb hm⟩
  rw [List.getElem?_append_left (by rw [rvals_len h.len]; exact hl)]
  exact rvals_get hb hm
theorem Om.mat (h : Om w base g bs M rest) : Mat w w.heap.size (some ⟨g, 0, none⟩) M := by
  refine ⟨rvals bs M, rvals_len h.len, ?_, fun i v m hv hm => ?_⟩
  · have := h.out.rds 0 M.length
    rw [List.drop_zero, List.take_append_of_le_length (by rw [rvals_len h.len]; exact Nat.le_refl _), List.take_of_length_le (by rw [rvals_len h.len]; exact Nat.le_refl _)] at this
    exact this
  · obtain ⟨b, hb, _, _, _, hk⟩ := h.at hm
    rw [rvals_get hb hm] at hv
    obtain rfl := Option.some.inj hv
    refine ⟨some ⟨b, 0, none⟩, m.length, rfl, Nat.le_refl _, h.caps m (List.mem_of_getElem? hm), (fun hh => by cases hh), ?_⟩
    have := hk.rds 0 m.length
    rw [List.drop_zero, List.take_of_length_le (by rw [List.length_map]; exact Nat.le_refl _)] at this
    exact this
theorem Om.fresh (hb : base ≤ g) (h : Blk w g rest 57) : Om w base g [] [] rest :=
  ⟨rfl, h, fun i b m hi => by simp at hi, hb, by simp, by simp, List.nodup_nil, by simp⟩
/-- One more row is laid, in a block of its own, and its slice stored behind the others. -/
theorem Om.push {v : Value} (h : Om w base g bs M (v :: rest)) (hO : Only g w w') {b : Nat} {m : List UInt8} (hg : Blk w' g (splice (rvals bs M ++ v :: rest) M.length [.slice (some ⟨b, 0, none⟩) m.length m.length]) 57)
    (hk : Blk w' b (m.map bv) 5) (hbase : base ≤ b) (hne : b ≠ g) (hnew : b ∉ bs) (hm : m.length ≤ maxLen) : Om w' base g (bs ++ [b]) (M ++ [m]) rest := by
  refine ⟨by simp [h.len], ?_, fun i b' m' hi hm' => ?_, h.low, fun x hx => ?_, fun x hx => ?_, ?_, fun x hx => ?_⟩
  · rw [rvals_snoc h.len, List.append_assoc]
    have hs : splice (rvals bs M ++ v :: rest) M.length [Value.slice (some ⟨b, 0, none⟩) m.length m.length] = rvals bs M ++ ([.slice (some ⟨b, 0, none⟩) m.length m.length] ++ rest) := by
      rw [splice_set _ _ _ (by simp [rvals_len h.len]), List.set_append_right _ _ (by rw [rvals_len h.len]; exact Nat.le_refl _), rvals_len h.len, Nat.sub_self]
      rfl
    rw [hs] at hg
    exact hg
  · rcases Nat.lt_or_ge i bs.length with hl | hl
    · rw [List.getElem?_append_left hl] at hi
      rw [List.getElem?_append_left (by rw [← h.len]; exact hl)] at hm'
      exact (h.row i b' m' hi hm').only hO (h.ne b' (List.mem_of_getElem? hi))
    · rw [List.getElem?_append_right hl] at hi
      rw [List.getElem?_append_right (by rw [← h.len]; exact hl), ← h.len] at hm'
      have h0 : i - bs.length = 0 := by
        rcases Nat.eq_zero_or_pos (i - bs.length) with h0 | h0
        · exact h0
        · rw [List.getElem?_eq_none (by simp; omega)] at hi; cases hi
      rw [h0] at hi hm'
      obtain rfl := Option.some.inj hi
      obtain rfl := Option.some.inj hm'
      exact hk
  · rcases List.mem_append.1 hx with hx | hx
    · exact h.lows x hx
    · rw [List.mem_singleton.1 hx]; exact hbase
  · rcases List.mem_append.1 hx with hx | hx
    · exact h.ne x hx
    · rw [List.mem_singleton.1 hx]; exact hne
  · rw [List.nodup_append]
    refine ⟨h.nodup, by simp, fun x hx y hy => ?_⟩
    rw [List.mem_singleton.1 hy]
    rintro rfl
    exact hnew hx
  · rcases List.mem_append.1 hx with hx | hx
    · exact h.caps x hx
    · rw [List.mem_singleton.1 hx]; exact hm
/-- A row is set anew. -/
theorem Om.setRow (h : Om w base g bs M rest) {i b : Nat} {m m' : List UInt8} (hb : bs[i]? = some b) (hm : M[i]? = some m) (hO : Only b w w') (hk : Blk w' b (m'.map bv) 5) (hl : m'.length = m.length) : Om w' base g bs (M.set i m') rest := by
  have hil := (List.getElem?_eq_some_iff.1 hm).1
  have hrv : rvals bs (M.set i m') = rvals bs M := by
    apply List.ext_getElem?
    intro j
    unfold rvals
    rw [List.getElem?_zipWith, List.getElem?_zipWith]
    by_cases hij : i = j
    · subst hij
      rw [List.getElem?_set_self hil, hm, hb]
      simp [hl]
    · rw [List.getElem?_set_ne hij]
  refine ⟨by simp [h.len], by rw [hrv]; exact h.out.only hO (Ne.symm (h.ne b (List.mem_of_getElem? hb))), fun j b' x hj hx => ?_, h.low, h.lows, h.ne, h.nodup, fun x hx => ?_⟩
  · by_cases hij : i = j
    · subst hij
      rw [List.getElem?_set_self hil] at hx
      obtain rfl := Option.some.inj hx
      rw [hb] at hj
      obtain rfl := Option.some.inj hj
      exact hk
    · rw [List.getElem?_set_ne hij] at hx
      refine (h.row j b' x hj hx).only hO fun hh => hij ?_
      subst hh
      have h1 := (List.getElem?_eq_some_iff.1 hb)
      have h2 := (List.getElem?_eq_some_iff.1 hj)
      exact (List.getElem_inj h.nodup).1 (h1.2.trans h2.2.symm)
  · rcases List.mem_or_eq_of_mem_set hx with hx | rfl
    · exact h.caps x hx
    · rw [hl]; exact h.caps m (List.mem_of_getElem? hm)
end
/-- The matrix of so many rows and columns with the elements F i j. -/
def matF (F : Nat → Nat → UInt8) (rows cols : Nat) : List (List UInt8) := (List.range rows).map fun i => rowF (F i) cols
theorem matF_len (F : Nat → Nat → UInt8) (r c : Nat) : (matF F r c).length = r := by simp [matF]
theorem matF_get (F : Nat → Nat → UInt8) {r c i : Nat} (h : i < r) : (matF F r c)[i]? = some (rowF (F i) c) := by simp [matF, h]
theorem matF_succ (F : Nat → Nat → UInt8) (r c : Nat) : matF F (r + 1) c = matF F r c ++ [rowF (F r) c] := by simp [matF, List.range_succ]
end Go.Proofs.YtcnljemnkhmfcaaDoor
