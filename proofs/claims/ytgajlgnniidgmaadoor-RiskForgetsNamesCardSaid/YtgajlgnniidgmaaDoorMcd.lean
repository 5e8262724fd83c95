/-
  Contracts of stage 5: columns, ContainsFunc, Check. Matrices of a call's own, whose rows lie in blocks apart; fill. Contracts of stage 5: build. Contracts of stage 5: Transpose.
-/
import Derived.Test.YtgajlgnniidgmaaDoorMt
import Derived.Test.YtgajlgnniidgmaaDoorMch
namespace Go.Proofs.YtgajlgnniidgmaaDoor
set_option linter.unusedVariables false
set_option linter.unusedSimpArgs false
open Go.RowKit
/-- What Check returns. -/
def chk (M : List (List UInt8)) : Int := if 48 < M.length ∨ (M.any fun m => decide (48 < m.length)) = true then 2 else if (M.any fun m => decide (m.length ≠ cols M)) = true then 1 else 0

end Go.Proofs.YtgajlgnniidgmaaDoor

namespace Go.Proofs.YtgajlgnniidgmaaDoor
set_option linter.unusedVariables false
set_option linter.unusedSimpArgs false
open Go.RowKit

theorem one_u8b (b : UInt8) : ∀ u ∈ (bv b).cells.toList, u.oneCell' = true := one_int .u8 _
/-- A row of so many elements F j. -/
def rowF (F : Nat → UInt8) (n : Nat) : List UInt8 := (List.range n).map F
theorem rowF_len (F : Nat → UInt8) (n : Nat) : (rowF F n).length = n := by simp [rowF]
theorem rowF_get (F : Nat → UInt8) {n i : Nat} (h : i < n) : (rowF F n)[i]? = some (F i) := by simp [rowF, h]
/-- What a row holds when its first j elements have been set. -/
def mixF (F : Nat → UInt8) (Y : List UInt8) (j : Nat) : List UInt8 := (List.range j).map F ++ Y.drop j
theorem mixF_len (F : Nat → UInt8) (Y : List UInt8) (j : Nat) (h : j ≤ Y.length) : (mixF F Y j).length = Y.length := by
  unfold mixF; simp; omega
theorem mixF_zero (F : Nat → UInt8) (Y : List UInt8) : mixF F Y 0 = Y := by simp [mixF]
theorem mixF_all (F : Nat → UInt8) (Y : List UInt8) (j : Nat) (h : Y.length ≤ j) : mixF F Y j = rowF F j := by
  unfold mixF rowF; rw [List.drop_eq_nil_of_le h, List.append_nil]
theorem mixF_next (F : Nat → UInt8) (Y : List UInt8) (j : Nat) (h : j < Y.length) : splice ((mixF F Y j).map bv) j [bv (F j)] = (mixF F Y (j + 1)).map bv := by
  rw [splice_set _ _ _ (by rw [List.length_map, mixF_len F Y j (by omega)]; exact h)]
  unfold mixF
  rw [List.drop_eq_getElem_cons h, List.range_succ]
  generalize Y[j] = y
  generalize Y.drop (j + 1) = Z
  rw [List.map_append, List.map_append, List.map_append, List.map_append, List.set_append_right _ _ (by simp)]
  simp
theorem mixF_get_lt (F : Nat → UInt8) (Y : List UInt8) (j i : Nat) (h : i < j) : (mixF F Y j)[i]? = some (F i) := by
  unfold mixF
  rw [List.getElem?_append_left (by simpa using h)]
  simp [h]
theorem mixF_get_ge (F : Nat → UInt8) (Y : List UInt8) (j i : Nat) (h : j ≤ i) : (mixF F Y j)[i]? = Y[i]? := by
  unfold mixF
  rw [List.getElem?_append_right (by simpa using h), List.getElem?_drop]
  congr 1
  simp
  omega

/-- The slices of rows that lie in blocks of their own. -/
def rvals (bs : List Nat) (M : List (List UInt8)) : List Value := List.zipWith (fun b m => Value.slice (some ⟨b, 0, none⟩) m.length m.length) bs M
/-- The rows M, each in a block of the call's own; their slices stand in block g, and behind them the values 'rest'. -/
structure Om (w : World) (base g : Nat) (bs : List Nat) (M : List (List UInt8)) (rest : List Value) : Prop where
  len : bs.length = M.length
  out : Blk w g (rvals bs M ++ rest) 52
  row : ∀ (i b : Nat) (m : List UInt8), bs[i]? = some b → M[i]? = some m → Blk w b (m.map bv) 5
  low : base ≤ g
  lows : ∀ b ∈ bs, base ≤ b
  ne : ∀ b ∈ bs, b ≠ g
  nodup : bs.Nodup
  caps : ∀ m ∈ M, m.length ≤ maxLen
theorem rvals_len {bs : List Nat} {M : List (List UInt8)} (h : bs.length = M.length) : (rvals bs M).length = M.length := by
  unfold rvals; rw [List.length_zipWith]; omega
theorem rvals_get {bs : List Nat} {M : List (List UInt8)} {i b : Nat} {m : List UInt8} (hb : bs[i]? = some b) (hm : M[i]? = some m) : (rvals bs M)[i]? = some (.slice (some ⟨b, 0, none⟩) m.length m.length) := by
  unfold rvals; rw [List.getElem?_zipWith, hb, hm]
theorem rvals_snoc {bs : List Nat} {M : List (List UInt8)} (h : bs.length = M.length) (b : Nat) (m : List UInt8) : rvals (bs ++ [b]) (M ++ [m]) = rvals bs M ++ [.slice (some ⟨b, 0, none⟩) m.length m.length] := by
  unfold rvals; rw [List.zipWith_append h]; rfl
section
variable {w w' : World} {base g : Nat} {bs : List Nat} {M : List (List UInt8)} {rest : List Value}
theorem Om.keep (h : Om w base g bs M rest) (hb : Below w.heap.size w w') : Om w' base g bs M rest :=
  ⟨h.len, h.out.below hb h.out.lt, fun i b m hi hm => (h.row i b m hi hm).below hb (h.row i b m hi hm).lt, h.low, h.lows, h.ne, h.nodup, h.caps⟩
theorem Om.at (h : Om w base g bs M rest) {i : Nat} {m : List UInt8} (hm : M[i]? = some m) : ∃ b, bs[i]? = some b ∧ b ≠ g ∧ base ≤ b ∧ w.cell? ⟨g, i, none⟩ = some (.slice (some ⟨b, 0, none⟩) m.length m.length) ∧ Blk w b (m.map bv) 5 := by
  have hl := (List.getElem?_eq_some_iff.1 hm).1
  obtain ⟨b, hb⟩ : ∃ b, bs[i]? = some b := ⟨_, List.getElem?_eq_getElem (by rw [h.len]; exact hl)⟩
  have hmem := List.mem_of_getElem? hb
  refine ⟨b, hb, h.ne b hmem, h.lows b hmem, h.out.cell ?_, h.row i b m hb hm⟩
  rw [List.getElem?_append_left (by rw [rvals_len h.len]; exact hl)]
  exact rvals_get hb hm
theorem Om.mat (h : Om w base g bs M rest) : Mat w w.heap.size (some ⟨g, 0, none⟩) M := by
  refine ⟨rvals bs M, rvals_len h.len, ?_, fun i v m hv hm => ?_⟩
  · have := h.out.rds 0 M.length
    rw [List.drop_zero, List.take_append_of_le_length (by rw [rvals_len h.len]; exact Nat.le_refl _), List.take_of_length_le (by rw [rvals_len h.len]; exact Nat.le_refl _)] at this
    exact this
  · obtain ⟨b, hb, _, _, _, hk⟩ := h.at hm
    rw [rvals_get hb hm] at hv
    obtain rfl := Option.some.inj hv
    refine ⟨some ⟨b, 0, none⟩, m.length, rfl, Nat.le_refl _, h.caps m (List.mem_of_getElem? hm), (fun hh => by cases hh), ?_⟩
    have := hk.rds 0 m.length
    rw [List.drop_zero, List.take_of_length_le (by rw [List.length_map]; exact Nat.le_refl _)] at this
    exact this
theorem Om.fresh (hb : base ≤ g) (h : Blk w g rest 52) : Om w base g [] [] rest :=
  ⟨rfl, h, fun i b m hi => by simp at hi, hb, by simp, by simp, List.nodup_nil, by simp⟩
/-- One more row is laid, in a block of its own, and its slice stored behind the others. -/
theorem Om.push {v : Value} (h : Om w base g bs M (v :: rest)) (hO : Only g w w') {b : Nat} {m : List UInt8} (hg : Blk w' g (splice (rvals bs M ++ v :: rest) M.length [.slice (some ⟨b, 0, none⟩) m.length m.length]) 52)
    (hk : Blk w' b (m.map bv) 5) (hbase : base ≤ b) (hne : b ≠ g) (hnew : b ∉ bs) (hm : m.length ≤ maxLen) : Om w' base g (bs ++ [b]) (M ++ [m]) rest := by
  refine ⟨by simp [h.len], ?_, fun i b' m' hi hm' => ?_, h.low, fun x hx => ?_, fun x hx => ?_, ?_, fun x hx => ?_⟩
  · rw [rvals_snoc h.len, List.append_assoc]
    have hs : splice (rvals bs M ++ v :: rest) M.length [Value.slice (some ⟨b, 0, none⟩) m.length m.length] = rvals bs M ++ ([.slice (some ⟨b, 0, none⟩) m.length m.length] ++ rest) := by
      rw [splice_set _ _ _ (by simp [rvals_len h.len]), List.set_append_right _ _ (by rw [rvals_len h.len]; exact Nat.le_refl _), rvals_len h.len, Nat.sub_self]
      rfl
    rw [hs] at hg
    exact hg
  · rcases Nat.lt_or_ge i bs.length with hl | hl
    · rw [List.getElem?_append_left hl] at hi
      rw [List.getElem?_append_left (by rw [← h.len]; exact hl)] at hm'
      exact (h.row i b' m' hi hm').only hO (h.ne b' (List.mem_of_getElem? hi))
    · rw [List.getElem?_append_right hl] at hi
      rw [List.getElem?_append_right (by rw [← h.len]; exact hl), ← h.len] at hm'
      have h0 : i - bs.length = 0 := by
        rcases Nat.eq_zero_or_pos (i - bs.length) with h0 | h0
        · exact h0
        · rw [List.getElem?_eq_none (by simp; omega)] at hi; cases hi
      rw [h0] at hi hm'
      obtain rfl := Option.some.inj hi
      obtain rfl := Option.some.inj hm'
      exact hk
  · rcases List.mem_append.1 hx with hx | hx
    · exact h.lows x hx
    · rw [List.mem_singleton.1 hx]; exact hbase
  · rcases List.mem_append.1 hx with hx | hx
    · exact h.ne x hx
    · rw [List.mem_singleton.1 hx]; exact hne
  · rw [List.nodup_append]
    refine ⟨h.nodup, by simp, fun x hx y hy => ?_⟩
    rw [List.mem_singleton.1 hy]
    rintro rfl
    exact hnew hx
  · rcases List.mem_append.1 hx with hx | hx
    · exact h.caps x hx
    · rw [List.mem_singleton.1 hx]; exact hm
/-- A row is set anew. -/
theorem Om.setRow (h : Om w base g bs M rest) {i b : Nat} {m m' : List UInt8} (hb : bs[i]? = some b) (hm : M[i]? = some m) (hO : Only b w w') (hk : Blk w' b (m'.map bv) 5) (hl : m'.length = m.length) : Om w' base g bs (M.set i m') rest := by
  have hil := (List.getElem?_eq_some_iff.1 hm).1
  have hrv : rvals bs (M.set i m') = rvals bs M := by
    apply List.ext_getElem?
    intro j
    unfold rvals
    rw [List.getElem?_zipWith, List.getElem?_zipWith]
    by_cases hij : i = j
    · subst hij
      rw [List.getElem?_set_self hil, hm, hb]
      simp [hl]
    · rw [List.getElem?_set_ne hij]
  refine ⟨by simp [h.len], by rw [hrv]; exact h.out.only hO (Ne.symm (h.ne b (List.mem_of_getElem? hb))), fun j b' x hj hx => ?_, h.low, h.lows, h.ne, h.nodup, fun x hx => ?_⟩
  · by_cases hij : i = j
    · subst hij
      rw [List.getElem?_set_self hil] at hx
      obtain rfl := Option.some.inj hx
      rw [hb] at hj
      obtain rfl := Option.some.inj hj
      exact hk
    · rw [List.getElem?_set_ne hij] at hx
      refine (h.row j b' x hj hx).only hO fun hh => hij ?_
      subst hh
      have h1 := (List.getElem?_eq_some_iff.1 hb)
      have h2 := (List.getElem?_eq_some_iff.1 hj)
      exact (List.getElem_inj h.nodup).1 (h1.2.trans h2.2.symm)
  · rcases List.mem_or_eq_of_mem_set hx with hx | rfl
    · exact h.caps x hx
    · rw [hl]; exact h.caps m (List.mem_of_getElem? hm)
end
/-- The matrix of so many rows and columns with the elements F i j. -/
def matF (F : Nat → Nat → UInt8) (rows cols : Nat) : List (List UInt8) := (List.range rows).map fun i => rowF (F i) cols
theorem matF_len (F : Nat → Nat → UInt8) (r c : Nat) : (matF F r c).length = r := by simp [matF]
theorem matF_get (F : Nat → Nat → UInt8) {r c i : Nat} (h : i < r) : (matF F r c)[i]? = some (rowF (F i) c) := by simp [matF, h]
theorem matF_succ (F : Nat → Nat → UInt8) (r c : Nat) : matF F (r + 1) c = matF F r c ++ [rowF (F r) c] := by simp [matF, List.range_succ]
end Go.Proofs.YtgajlgnniidgmaaDoor

namespace Go.Proofs.YtgajlgnniidgmaaDoor
set_option linter.unusedVariables false
set_option linter.unusedSimpArgs false
open Go.RowKit

theorem infoRow : (Tryd.prog.info? 52).map (fun i => (i.zero, i.size, i.bytes)) = some (some (.slice none 0 0), 1, 24) := by kernel_rfl
theorem size_row : (Tryd.prog.info? 52).map (·.size) = some 1 := by kernel_rfl
theorem one_slice (A : Option Addr) (n c : Nat) : ∀ u ∈ (Value.slice A n c).cells.toList, u.oneCell' = true := by
  intro u hu
  have hu' : u ∈ [Value.slice A n c] := hu
  rw [List.mem_singleton.1 hu']
  rfl
theorem made_nils (n : Nat) : madeCells #[Value.slice none 0 0] n = (List.replicate n (Value.slice none 0 0)).toArray := by
  unfold madeCells
  apply Array.ext'
  simp [Nat.mod_one]
  apply List.ext_getElem <;> simp
theorem zeros_row (n : Nat) : (List.replicate n (Value.int .u8 0)) = (List.replicate n (0 : UInt8)).map bv := by
  rw [List.map_replicate]; rfl
/-- What a call that builds a matrix ends with. -/
def MatEnd (w : World) (rows : Nat) (M : List (List UInt8)) (e : Ending) (w' : World) : Prop :=
  (∃ g bs, e = .returned (.slice (some ⟨g, 0, none⟩) rows rows) ∧ Om w' w.heap.size g bs M []) ∧ Below w.heap.size w w'
theorem size_int5 : (Tryd.prog.info? 3).map (·.size) = some 1 := by kernel_rfl

end Go.Proofs.YtgajlgnniidgmaaDoor

namespace Go.Proofs.YtgajlgnniidgmaaDoor
set_option linter.unusedVariables false
set_option linter.unusedSimpArgs false
open Go.RowKit

/-- An element of a matrix. -/
def el (M : List (List UInt8)) (i j : Nat) : UInt8 := (M.getD i []).getD j 0
theorem el_of {M : List (List UInt8)} {i j : Nat} {m : List UInt8} {b : UInt8} (hi : M[i]? = some m) (hj : m[j]? = some b) : el M i j = b := by
  unfold el
  simp [List.getD_eq_getElem?_getD, hi, hj]
/-- Valid: at most 48 rows of at most 48 elements, all of one length. -/
structure Ok (M : List (List UInt8)) : Prop where
  rows : M.length ≤ 48
  cols48 : ∀ m ∈ M, m.length ≤ 48
  same : ∀ m ∈ M, m.length = cols M
theorem ok_of {M : List (List UInt8)} (h : chk M = 0) : Ok M := by
  unfold chk at h
  split at h
  · cases h
  · rename_i h1
    split at h
    · cases h
    · rename_i h2
      simp only [not_or, Nat.not_lt, Bool.not_eq_true, List.any_eq_false, decide_eq_true_eq] at h1
      simp only [Bool.not_eq_true, List.any_eq_false, decide_eq_true_eq, ne_eq, Decidable.not_not] at h2
      exact ⟨h1.1, h1.2, h2⟩
theorem Ok.cols_le {M : List (List UInt8)} (h : Ok M) : cols M ≤ 48 := by
  unfold cols
  cases M with
  | nil => simp
  | cons m M => exact h.cols48 m (List.mem_cons_self ..)
theorem Ok.get {M : List (List UInt8)} (h : Ok M) {i : Nat} (hi : i < M.length) : ∃ m, M[i]? = some m ∧ m.length = cols M := ⟨_, List.getElem?_eq_getElem hi, h.same _ (List.getElem_mem hi)⟩
theorem Ok.el {M : List (List UInt8)} (h : Ok M) {i j : Nat} (hi : i < M.length) (hj : j < cols M) : ∃ m, M[i]? = some m ∧ m.length = cols M ∧ m[j]? = some (el M i j) := by
  obtain ⟨m, hm, hl⟩ := h.get hi
  obtain ⟨b, hb⟩ : ∃ b, m[j]? = some b := ⟨_, List.getElem?_eq_getElem (by omega)⟩
  exact ⟨m, hm, hl, by rw [el_of hm hb]; exact hb⟩
theorem chk_cases (M : List (List UInt8)) : chk M = 0 ∨ chk M = 1 ∨ chk M = 2 := by
  unfold chk; split
  · simp
  · split <;> simp
/-- What a call that returns a matrix and an error ends with. -/
def MatRet (w : World) (T : List (List UInt8)) (E : Int) (e : Ending) (w' : World) : Prop :=
  (∃ A c, e = .returned (.tuple #[.slice A T.length c, .int .i64 E]) ∧ T.length ≤ c ∧ c ≤ maxLen ∧ (A = none → c = 0) ∧ Mat w' w'.heap.size A T) ∧ Below w.heap.size w w'
theorem MatRet.nothing {w w' : World} {E : Int} (h : Below w.heap.size w w') : MatRet w [] E (.returned (.tuple #[.slice none 0 0, .int .i64 E])) w' :=
  ⟨⟨none, 0, rfl, by simp, by unfold maxLen; decide, fun _ => rfl, Mat.nil⟩, h⟩
theorem MatRet.own {w w' W : World} {base g n : Nat} {bs : List Nat} {T : List (List UInt8)} (hn : T.length = n) (hO : Om w' base g bs T []) (h : Below w.heap.size w w') (hm : n ≤ 1000000) : MatRet w T 0 (.returned (.tuple #[.slice (some ⟨g, 0, none⟩) n n, .int .i64 0])) w' := by
  subst hn
  exact ⟨⟨_, _, rfl, Nat.le_refl _, by unfold maxLen; omega, (fun hh => by cases hh), hO.mat⟩, h⟩

/-- The transpose. -/
def tr (M : List (List UInt8)) : List (List UInt8) := matF (fun i j => el M j i) (cols M) M.length

end Go.Proofs.YtgajlgnniidgmaaDoor
