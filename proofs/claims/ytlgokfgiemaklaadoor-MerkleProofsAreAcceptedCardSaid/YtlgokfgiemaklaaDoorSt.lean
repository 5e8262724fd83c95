/-
  What a stream keeps of its message, as plain mathematics.
-/
import Derived.Test.YtlgokfgiemaklaaDoorShas
import Derived.Laws.CopyOwn
namespace Go.Proofs.YtlgokfgiemaklaaDoor.Sha

/-- s and b are what a stream keeps of the message m. -/
def Holds (m : List UInt8) (s : List Nat) (b : List UInt8) : Prop :=
  s = blocks (m.length / 64) start m ∧ b.length = 64 ∧ b.take (m.length % 64) = m.drop (64 * (m.length / 64))

theorem Holds.begin : Holds [] start (List.replicate 64 0) := ⟨rfl, rfl, rfl⟩
theorem Holds.len {m : List UInt8} {s : List Nat} {b : List UInt8} (h : Holds m s b) : s.length = 8 := by rw [h.1]; exact blocks_len _ _ _ rfl

theorem blocks_cut (q : Nat) (s : List Nat) (m : List UInt8) (h : 64 * q ≤ m.length) : blocks q s m = blocks q s (m.take (64 * q)) := by
  conv => lhs; rw [← List.take_append_drop (64 * q) m]
  exact blocks_more q s _ _ (by rw [List.length_take]; omega)

theorem Holds.part {m t b : List UInt8} {s : List Nat} (h : Holds m s b) (hk : m.length % 64 + t.length < 64) : Holds (m ++ t) s (splice b (m.length % 64) t) := by
  obtain ⟨h1, h2, h3⟩ := h
  have hq : (m ++ t).length / 64 = m.length / 64 := by rw [List.length_append]; omega
  have hp : (m ++ t).length % 64 = m.length % 64 + t.length := by rw [List.length_append]; omega
  refine ⟨?_, by rw [length_splice _ _ _ (by omega)]; exact h2, ?_⟩
  · rw [hq, blocks_more _ _ _ _ (by omega)]; exact h1
  · rw [hq, hp, List.drop_append_of_le_length (by omega), ← h3]
    unfold splice
    rw [← List.append_assoc]
    exact List.take_left' (by rw [List.length_append, List.length_take]; omega)
theorem Holds.whole {m t b : List UInt8} {s : List Nat} (h : Holds m s b) (hk : m.length % 64 + t.length = 64) : Holds (m ++ t) (compress s (splice b (m.length % 64) t)) (splice b (m.length % 64) t) := by
  obtain ⟨h1, h2, h3⟩ := h
  have hq : (m ++ t).length / 64 = m.length / 64 + 1 := by rw [List.length_append]; omega
  have hp : (m ++ t).length % 64 = 0 := by rw [List.length_append]; omega
  have ho : splice b (m.length % 64) t = m.drop (64 * (m.length / 64)) ++ t := by
    unfold splice
    rw [List.drop_eq_nil_of_le (by omega), List.append_nil, h3]
  refine ⟨?_, by rw [length_splice _ _ _ (by omega)]; exact h2, ?_⟩
  · have hm : m ++ t = m.take (64 * (m.length / 64)) ++ (m.drop (64 * (m.length / 64)) ++ t) := by rw [← List.append_assoc, List.take_append_drop]
    rw [hq]
    conv => rhs; rw [hm]
    rw [blocks_snoc _ _ _ _ (by rw [List.length_take]; omega) (by rw [List.length_append, List.length_drop]; omega), ho, h1, ← blocks_cut _ _ _ (by omega)]
  · rw [hp, hq, List.drop_eq_nil_of_le (by rw [List.length_append]; omega)]
    rfl

theorem blocks_one (s : List Nat) (x : List UInt8) (h : x.length = 64) : blocks 1 s x = compress s x := by
  rw [blocks, blocks, List.take_of_length_le (by omega)]
theorem sum_holds {m b : List UInt8} {s : List Nat} (h : Holds m s b) :
    sum m = bytes (blocks ((m.length % 64 + 1 + zeros (m.length % 64) + 8) / 64) s (b.take (m.length % 64) ++ 128 :: List.replicate (zeros (m.length % 64)) 0 ++ be64 (8 * m.length))) := by
  obtain ⟨h1, h2, h3⟩ := h
  have hs := sum_split (m.length / 64) (m.take (64 * (m.length / 64))) (m.drop (64 * (m.length / 64))) (by rw [List.length_take]; omega)
  have hr : (m.drop (64 * (m.length / 64))).length = m.length % 64 := by rw [List.length_drop]; omega
  have hl : (m.take (64 * (m.length / 64))).length + m.length % 64 = m.length := by rw [List.length_take]; omega
  rw [List.take_append_drop, hr, hl, ← blocks_cut _ _ _ (by omega), ← h1, ← h3] at hs
  exact hs
/-- The last block, where there is room for the length. -/
theorem sum_short {m b : List UInt8} {s : List Nat} (h : Holds m s b) (hp : m.length % 64 < 56) :
    sum m = bytes (compress s (b.take (m.length % 64) ++ 128 :: List.replicate (55 - m.length % 64) 0 ++ be64 (8 * m.length))) := by
  have hz : zeros (m.length % 64) = 55 - m.length % 64 := by unfold zeros; omega
  rw [sum_holds h, hz, show (m.length % 64 + 1 + (55 - m.length % 64) + 8) / 64 = 1 by omega, blocks_one]
  simp only [List.length_append, List.length_cons, List.length_replicate, be64_len, List.length_take, h.2.1]
  omega
theorem sum_long {m b : List UInt8} {s : List Nat} (h : Holds m s b) (hp : 56 ≤ m.length % 64) :
    sum m = bytes (compress (compress s (b.take (m.length % 64) ++ 128 :: List.replicate (63 - m.length % 64) 0)) (List.replicate 56 0 ++ be64 (8 * m.length))) := by
  have hlt : m.length % 64 < 64 := Nat.mod_lt _ (by decide)
  have hz : zeros (m.length % 64) = 119 - m.length % 64 := by unfold zeros; omega
  have hsp : b.take (m.length % 64) ++ 128 :: List.replicate (119 - m.length % 64) 0 ++ be64 (8 * m.length) = (b.take (m.length % 64) ++ 128 :: List.replicate (63 - m.length % 64) 0) ++ (List.replicate 56 0 ++ be64 (8 * m.length)) := by
    rw [show 119 - m.length % 64 = 63 - m.length % 64 + 56 by omega, ← List.replicate_append_replicate]
    simp only [List.append_assoc, List.cons_append]
  have hl1 : (b.take (m.length % 64) ++ 128 :: List.replicate (63 - m.length % 64) (0 : UInt8)).length = 64 := by
    simp only [List.length_append, List.length_cons, List.length_replicate, List.length_take, h.2.1]
    omega
  have hl2 : (List.replicate 56 (0 : UInt8) ++ be64 (8 * m.length)).length = 64 := by
    simp only [List.length_append, List.length_replicate, be64_len]
  rw [sum_holds h, hz, show (m.length % 64 + 1 + (119 - m.length % 64) + 8) / 64 = 1 + 1 by omega, hsp, blocks_snoc 1 _ _ _ (by rw [hl1]) hl2, blocks_one _ _ hl1]

/-! ### numbers of 32 bits -/
def Small (l : List Nat) : Prop := ∀ x ∈ l, x < 4294967296
theorem Small.at {l : List Nat} (h : Small l) (i : Nat) : l.getD i 0 < 4294967296 := by
  rw [List.getD_eq_getElem?_getD]
  rcases hi : l[i]? with _ | x
  · simp
  · exact h x (List.mem_of_getElem? hi)
theorem small_start : Small start := by unfold Small start; decide
theorem small_table : Small table := by unfold Small table; decide
theorem table_len : table.length = 64 := rfl
theorem small_step (v : List Nat) (k w : Nat) (h : Small v) : Small (step v k w) := by
  unfold step
  split
  · rename_i a b c d e f g hh
    intro x hx
    simp only [List.mem_cons, List.not_mem_nil, or_false] at hx
    unfold Small at h
    simp only [List.mem_cons, List.not_mem_nil, or_false] at h
    rcases hx with rfl | rfl | rfl | rfl | rfl | rfl | rfl | rfl <;> first | exact Nat.mod_lt _ (by decide) | exact h _ (by simp)
  · exact h
theorem steps_snoc (v ks ws : List Nat) (t : Nat) (hk : t < ks.length) (hw : t < ws.length) : steps v (ks.take (t + 1)) (ws.take (t + 1)) = step (steps v (ks.take t) (ws.take t)) (ks.getD t 0) (ws.getD t 0) := by
  unfold steps
  rw [List.take_succ_eq_append_getElem hk, List.take_succ_eq_append_getElem hw, List.zip_append (by rw [List.length_take, List.length_take]; omega), List.foldl_append]
  simp [List.getD_eq_getElem?_getD, hk, hw]
theorem small_steps (v ks ws : List Nat) (h : Small v) : Small (steps v ks ws) := by
  unfold steps
  generalize ks.zip ws = l
  induction l generalizing v with
  | nil => exact h
  | cons q l ih => exact ih _ (small_step v q.1 q.2 h)
theorem word_lt (b : List UInt8) (t : Nat) : word b t < 4294967296 := by
  have hb : ∀ i, (b.getD i 0).toNat < 256 := fun i => UInt8.toNat_lt _
  unfold word
  refine or_lt (or_lt (or_lt ?_ ?_) ?_) ?_
  · have := hb (4 * t); rw [Nat.shiftLeft_eq]; omega
  · have := hb (4 * t + 1); rw [Nat.shiftLeft_eq]; omega
  · have := hb (4 * t + 2); rw [Nat.shiftLeft_eq]; omega
  · have := hb (4 * t + 3); omega
theorem small_words (b : List UInt8) (n : Nat) : Small (words b n) := by
  induction n with
  | zero => intro x hx; cases hx
  | succ n ih =>
    intro x hx
    rw [words, List.mem_append, List.mem_singleton] at hx
    rcases hx with hx | rfl
    · exact ih x hx
    · split
      · exact word_lt _ _
      · exact Nat.mod_lt _ (by decide)
theorem compress_def (s : List Nat) (b : List UInt8) : compress s b = List.zipWith (fun p q => (p + q) % 4294967296) s (steps s (table.take 64) ((words b 64).take 64)) := by
  unfold compress
  have := words_go b 64 0
  rw [show words b 0 = [] from rfl] at this
  rw [this, List.take_of_length_le (l := table) (by rw [table_len]; omega), List.take_of_length_le (l := words b 64) (by rw [words_len]; omega)]
theorem small_compress (s : List Nat) (b : List UInt8) : Small (compress s b) := by
  unfold compress
  intro x hx
  rw [List.mem_iff_getElem?] at hx
  obtain ⟨i, hi⟩ := hx
  rw [List.getElem?_zipWith] at hi
  split at hi
  · injection hi with hi
    rw [← hi]
    exact Nat.mod_lt _ (by decide)
  · cases hi
theorem small_blocks (n : Nat) (s : List Nat) (b : List UInt8) (h : Small s) : Small (blocks n s b) := by
  induction n generalizing s b with
  | zero => exact h
  | succ n ih => exact ih _ _ (small_compress s _)
theorem Holds.small {m : List UInt8} {s : List Nat} {b : List UInt8} (h : Holds m s b) : Small s := by rw [h.1]; exact small_blocks _ _ _ small_start
/-- The bytes of a hash value, one by one. -/
theorem bytes_at (s : List Nat) (i : Nat) (h : i < 4 * s.length) : (bytes s)[i]? = some (UInt8.ofNat ((s.getD (i / 4) 0) >>> (24 - 8 * (i % 4)) % 256)) := by
  induction s generalizing i with
  | nil => simp at h
  | cons x s ih =>
    unfold bytes
    rw [List.flatMap_cons]
    by_cases h4 : i < 4
    · rw [List.getElem?_append_left (by simpa using h4)]
      have : i = 0 ∨ i = 1 ∨ i = 2 ∨ i = 3 := by omega
      rcases this with rfl | rfl | rfl | rfl <;> rfl
    · rw [List.getElem?_append_right (by simp; omega)]
      have h5 := ih (i - 4) (by rw [List.length_cons] at h; omega)
      unfold bytes at h5
      rw [show ([UInt8.ofNat (x >>> 24 % 256), UInt8.ofNat (x >>> 16 % 256), UInt8.ofNat (x >>> 8 % 256), UInt8.ofNat (x % 256)] : List UInt8).length = 4 from rfl, h5, show i / 4 = (i - 4) / 4 + 1 by omega, show i % 4 = (i - 4) % 4 by omega, List.getD_cons_succ]
end Go.Proofs.YtlgokfgiemaklaaDoor.Sha
